/- Texts that several claims share, one behind the other. -/
import Derived.Test.YtopfeebibphdgaaGb
import Derived.Test.YtopfeebibphdgaaGa
/- Values: which lists of them are valid, by the program and the model. -/
namespace Go.Proofs.Ytopfeebibphdgaa
open Go.RowKit
attribute [local go_sem] Oper.semAt_some
attribute [local go_sem, local simp] wide_fn

theorem tooGreat_any (x : Int) (w : World) :
    Calls Try.prog 73 #[.int .i64 x] w fun e w' => e = .returned (.bool (!inB x (-1000) 1000)) ∧ w = w' := by
  have Hb := Lib.hid (show (!inB x (-1000) 1000) = (decide (x < -1000) || decide (1000 < x)) by
    unfold inB
    rw [Bool.eq_iff_iff]
    simp
    try omega)
  rw [Hb.out]
  by_cases h1 : x < -1000
  · have hd : decide (x < -1000) = true := decide_eq_true h1
    go_enter Try.func73, Try.ntmps73
    go_wp2
    go_ret
    exact ⟨ret_bool (by first | rfl | simp [hd]), rfl⟩
  · have hd : decide (x < -1000) = false := decide_eq_false h1
    go_enter Try.func73, Try.ntmps73
    go_wp2
    go_ret
    exact ⟨ret_bool (by first | rfl | simp [hd]), rfl⟩

set_option maxHeartbeats 1000000 in
theorem indexGreat_any (A : Option Addr) (n c B : Nat) (vs : List Int) (w : World) (h : Ints w B A n vs) (hbig : n ≤ 1152921504606846976) :
    Calls Try.prog 99 #[.slice A n c, .func (.func 73) #[] #[]] w fun e w' => ∃ j : Int, e = .returned (.int .i64 j) ∧ decide (0 ≤ j) = !valB vs ∧ w = w' := by
  have hlen := Lib.hid h.len
  go_enter Try.func99, Try.ntmps99
  go_wp2
  go_loop [8] (fun i => ∃ k : Nat, k ≤ n ∧ i = .int .i64 k ∧ (∀ j, j < k → inB (vs[j]?.getD 0) (-1000) 1000 = true)) (fun i => n - (intOf i).toNat)
  case atStart => exact ⟨0, by omega, rfl, fun j hj => by omega⟩
  case round =>
    obtain ⟨k, hk, rfl, hok⟩ := hrel
    have Hok := Lib.hid hok
    clear hok
    by_cases hlt : k < n
    · obtain ⟨b, off, rfl, _, hc⟩ := h.at_ hlt
      have hck := hc k hlt
      clear hc
      have htg := fun w => tooGreat_any (vs[k]?.getD 0) w
      cases hin : inB (vs[k]?.getD 0) (-1000) 1000
      · have Hn := Lib.hid (valB_no (by rw [hlen.out]; exact hlt) hin)
        rw [hin] at htg
        clear hin
        go_wp2_with (go_at_call 73; refine (htg _).mono ?_; rintro e w' ⟨rfl, rfl⟩)
        go_ret
        exact ⟨(k : Int), rfl, by rw [Hn.out]; simp, rfl⟩
      · have Hn := Lib.hid (all_snoc Hok.out hin)
        rw [hin] at htg
        clear hin
        go_wp2_with (go_at_call 73; refine (htg _).mono ?_; rintro e w' ⟨rfl, rfl⟩)
        go_round
        case rel => exact ⟨k + 1, by omega, by go_num, Hn.out⟩
        case measure => simp [intOf]; omega
    · obtain rfl : k = n := by omega
      have Hn := Lib.hid (valB_all (vs := vs) (by rw [hlen.out]; exact Hok.out))
      go_wp2
      go_ret
      exact ⟨-1, rfl, by rw [Hn.out]; rfl, rfl⟩
theorem containsGreat_any (A : Option Addr) (n c B : Nat) (vs : List Int) (w : World) (h : Ints w B A n vs) (hbig : n ≤ 1152921504606846976) :
    Calls Try.prog 72 #[.slice A n c, .func (.func 73) #[] #[]] w fun e w' => e = .returned (.bool (!valB vs)) ∧ w = w' := by
  go_enter Try.func72, Try.ntmps72
  go_wp2_with fail
  refine (indexGreat_any A n c B vs w h hbig).mono ?_
  rintro e w' ⟨j, rfl, hj, rfl⟩
  have Hj := Lib.hid hj
  clear hj
  go_wp2_with fail
  go_ret
  exact ⟨ret_bool (by rw [← Hj.out]), rfl⟩
/-- What 'readValued' hands back. -/
def ReadsV (zs vs : List Int) (n : Nat) (w : World) (e : Ending) (w' : World) : Prop :=
  Below w.heap.size w w' ∧ ((valR zs vs = true ∧ ∃ b, e = .returned (.tuple #[.slice (some ⟨b, 0, none⟩) n n, .bool true]) ∧ w.heap.size ≤ b ∧ Arr w' b 57 zs) ∨
    (valR zs vs = false ∧ e = .returned (.tuple #[.slice none 0 0, .bool false])))

set_option maxRecDepth 100000 in
set_option maxHeartbeats 1000000 in
theorem readValued_any (A : Option Addr) (n c : Nat) (zs : List Int) (A' : Option Addr) (n' c' : Nat) (vs : List Int) (w : World) (hA : Ints w w.heap.size A n zs) (hV : Ints w w.heap.size A' n' vs) (hbig : n ≤ 1152921504606846976) (hbig' : n' ≤ 1152921504606846976) :
    Calls Try.prog 40 #[.slice A n c, .slice A' n' c'] w (ReadsV zs vs n w) := by
  have hlen := Lib.hid hA.len
  have hlen' := Lib.hid hV.len
  go_enter Try.func40, Try.ntmps40
  go_wp2_with fail
  refine (readOrder_any A n c zs w hA hbig).mono ?_
  rintro e w1 ⟨hB, (⟨hv, b, rfl, hb, hAr⟩ | ⟨hv, rfl⟩)⟩
  · have hV1 := hV.below hB
    have Hv := Lib.hid hv
    clear hv
    by_cases hnn : n' = n
    · obtain rfl : n = n' := hnn.symm
      have hq : ((n : Int) != (n : Int)) = false := by simp
      have hcg := fun u h => containsGreat_any A' n c' w.heap.size vs u h hbig'
      cases hval : valB vs
      · have Hf := Lib.hid (show valR zs vs = false by unfold valR; rw [hval]; simp)
        rw [hval] at hcg
        clear hval
        go_wp2_with fail
        refine (hcg _ hV1).mono ?_
        rintro e w' ⟨rfl, rfl⟩
        go_wp2_with fail
        go_ret2
        exact ⟨hB, .inr ⟨Hf.out, rfl⟩⟩
      · have Hf := Lib.hid (show valR zs vs = true by unfold valR; rw [hval, Hv.out, hlen.out, hlen'.out]; simp)
        rw [hval] at hcg
        clear hval
        go_wp2_with fail
        refine (hcg _ hV1).mono ?_
        rintro e w' ⟨rfl, rfl⟩
        go_wp2_with fail
        go_ret2
        exact ⟨hB, .inl ⟨Hf.out, b, rfl, hb, hAr⟩⟩
    · have hq : ((n' : Int) != (n : Int)) = true := by simpa using (show ¬ (n' : Int) = (n : Int) by omega)
      have Hf := Lib.hid (show valR zs vs = false by unfold valR; rw [hlen.out, hlen'.out, decide_eq_false hnn]; simp)
      go_wp2_with fail
      go_ret2
      exact ⟨hB, .inr ⟨Hf.out, rfl⟩⟩
  · have Hf := Lib.hid (show valR zs vs = false by unfold valR; rw [hv]; rfl)
    clear hv
    go_wp2_with fail
    go_ret2
    exact ⟨hB, .inr ⟨Hf.out, rfl⟩⟩

set_option maxHeartbeats 1000000 in
theorem svalid_any (A : Option Addr) (n c : Nat) (zs : List Int) (A' : Option Addr) (n' c' B : Nat) (vs : List Int) (w : World) (hA : Ints w B A n zs) (hV : Ints w B A' n' vs) (hbig : n ≤ 1152921504606846976) (hbig' : n' ≤ 1152921504606846976) :
    Calls Try.prog 38 #[.slice A n c, .slice A' n' c'] w fun e w' => e = .returned (.bool (valR zs vs)) ∧ ∃ m, w' = w.drewN m := by
  have hlen := Lib.hid hA.len
  have hlen' := Lib.hid hV.len
  go_enter Try.func38, Try.ntmps38
  go_wp2
  go_loop [5] (fun i => ∃ k : Nat, k ≤ n' ∧ i = .int .i64 k ∧ (∀ j, j < k → inB (vs[j]?.getD 0) (-1000) 1000 = true)) (fun i => n' - (intOf i).toNat)
  case atStart => exact ⟨0, by omega, rfl, fun j hj => by omega⟩
  case round =>
    obtain ⟨k, hk, rfl, hok⟩ := hrel
    have Hok := Lib.hid hok
    clear hok
    by_cases hlt : k < n'
    · obtain ⟨b, off, rfl, _, hc⟩ := hV.at_ hlt
      have hck := hc k hlt
      clear hc
      have htg := fun w => inRange_any (vs[k]?.getD 0) (-1000) 1000 w
      cases hin : inB (vs[k]?.getD 0) (-1000) 1000
      · have Hn := Lib.hid (show valR zs vs = false by unfold valR; rw [valB_no (by rw [hlen'.out]; exact hlt) hin]; simp)
        rw [hin] at htg
        clear hin
        go_wp2_with (go_at_call 43; refine (htg _).mono ?_; rintro e w' ⟨rfl, rfl⟩)
        go_ret
        exact ⟨ret_bool Hn.out.symm, 0, rfl⟩
      · have Hn := Lib.hid (all_snoc Hok.out hin)
        rw [hin] at htg
        clear hin
        go_wp2_with (go_at_call 43; refine (htg _).mono ?_; rintro e w' ⟨rfl, rfl⟩)
        go_round
        case rel => exact ⟨k + 1, by omega, by go_num, Hn.out⟩
        case measure => simp [intOf]; omega
    · obtain rfl : k = n' := by omega
      have Hv := Lib.hid (valB_all (vs := vs) (by rw [hlen'.out]; exact Hok.out))
      cases hv : vo zs
      · have Hn := Lib.hid (show valR zs vs = false by unfold valR; rw [hv]; rfl)
        go_wp2_with fail
        refine (validOrder_any A n c _ zs w hA hbig).mono ?_
        rw [hv]
        rintro e w' ⟨rfl, m, rfl⟩
        go_wp2_with fail
        go_ret
        exact ⟨ret_bool Hn.out.symm, _, rfl⟩
      · have Hn := Lib.hid (show valR zs vs = decide (k = n) by unfold valR; rw [hv, Hv.out, hlen.out, hlen'.out]; simp)
        go_wp2_with fail
        refine (validOrder_any A n c _ zs w hA hbig).mono ?_
        rw [hv]
        rintro e w' ⟨rfl, m, rfl⟩
        clear hv
        go_wp2_with fail
        go_ret
        exact ⟨ret_bool (by rw [Hn.out]; rw [Bool.eq_iff_iff]; simp; omega), _, rfl⟩
end Go.Proofs.Ytopfeebibphdgaa

/- SumsBelow: the program's. -/
namespace Go.Proofs.Ytopfeebibphdgaa
open Go.RowKit Go.Shelf
attribute [local go_sem] Oper.semAt_some
attribute [local go_sem, local simp] wide_fn

theorem lsum_items (g : Nat → Int) (s : Int) : ∀ k : Nat, lsum g (itemsTo s k) = smTo (fun b => if bitB s (b : Int) then g b else 0) k
  | 0 => rfl
  | k + 1 => by
    cases h : bitB s (k : Int)
    · rw [itemsTo_no h, lsum_items g s k, smTo_succ, h]; simp
    · rw [itemsTo_yes h, lsum_snoc, lsum_items g s k, smTo_succ, h]; simp
theorem below_leB {zs : List Int} (h : VoP zs) {a : Nat} (ha : a < zs.length) (j : Nat) : bitB (belI zs (orI 0 (powI (a : Int)))) j = leB zs j a := by
  rw [Bool.eq_iff_iff, belI_bit h.sets (one_bd ha).2, one_bit]
  unfold leB upw
  simp only [Bool.or_eq_true, decide_eq_true_eq, beq_iff_eq]
  constructor
  · rintro (h1 | ⟨c, hc, h3⟩)
    · exact .inl h1.symm
    · rw [one_bit, decide_eq_true_iff] at hc
      subst hc
      exact .inr h3
  · rintro (h1 | h3)
    · exact .inl h1.symm
    · exact .inr ⟨a, by rw [one_bit]; simp, h3⟩
theorem lsum_below {zs vs : List Int} (h : VoP zs) {a : Nat} (ha : a < zs.length) : lsum (fun x => vs[x]?.getD 0) (itemsL (belI zs (orI 0 (powI (a : Int))))) = sbI zs vs a := by
  have hb := belI_bd h.sets (one_bd ha).1 (one_bd ha).2
  rw [← itemsTo_all hb.2 h.1, lsum_items]
  unfold sbI
  refine smTo_congr _ fun b _ => ?_
  rw [below_leB h ha]
theorem lsum_small {g : Nat → Int} {B : Int} (h0 : 0 ≤ B) (hg : ∀ x, -B ≤ g x ∧ g x ≤ B) : ∀ l : List Nat, -(B * l.length) ≤ lsum g l ∧ lsum g l ≤ B * l.length
  | [] => by simp [lsum]
  | x :: l => by
    have := lsum_small h0 hg l
    have h2 := hg x
    rw [lsum_cons, List.length_cons, show B * ((l.length + 1 : Nat) : Int) = B * l.length + B by rw [Int.natCast_add, Int.mul_add]; simp]
    omega
theorem pre_small {g : Nat → Int} {B s : Int} (h0 : 0 ≤ B) (hB : B ≤ 100000000000) (hg : ∀ x, -B ≤ g x ∧ g x ≤ B) (pre : List Nat) (hp : pre <+: itemsL s) : -1000000000000 ≤ lsum g pre ∧ lsum g pre ≤ 1000000000000 := by
  have h1 := lsum_small h0 hg pre
  have h2 := hp.length_le
  have h3 : (itemsL s).length ≤ 6 := by
    have := List.length_filter_le (fun j : Nat => bitB s (j : Int)) (List.range 6)
    rw [List.length_range] at this
    exact this
  have h4 : B * pre.length ≤ B * 6 := Int.mul_le_mul_of_nonneg_left (by omega) h0
  omega

/-- What the closure of SumsBelow tells. -/
theorem sums1_any (b : Nat) (A : Option Addr) (n c x B : Nat) (vs : List Int) (w : World) (hb : Boxed w b 22 (.slice A n c)) (hV : Ints w B A n vs) (hx : x < n) :
    Calls Try.prog 78 #[.int .i64 (x : Int), .pointer (some ⟨b, 0, none⟩)] w fun e w' => e = .returned (.int .i64 (vs[x]?.getD 0)) ∧ w = w' := by
  have hc := hb.cell
  obtain ⟨bl, off, rfl, _, hcs⟩ := hV.at_ hx
  have hcx := hcs x hx
  clear hcs
  go_enter Try.func78, Try.ntmps78
  go_wp2
  go_ret
  exact ⟨rfl, rfl⟩

set_option maxRecDepth 100000 in
set_option maxHeartbeats 4000000 in
theorem osumsBelow_any (A : Option Addr) (n c : Nat) (zs : List Int) (A' : Option Addr) (c' : Nat) (vs : List Int) (hvo : VoP zs) (hvb : valB vs = true) (w : World) (hA : Ints w w.heap.size A n zs) (hV : Ints w w.heap.size A' n vs) :
    Calls Try.prog 41 #[.slice A n c, .slice A' n c'] w fun e W' => ∃ Z, e = .returned (.slice (some ⟨Z, 0, none⟩) n n) ∧ w.heap.size ≤ Z ∧ Arr W' Z 3 (sumsL zs vs) ∧ Below w.heap.size w W' := by
  have hlen := Lib.hid hA.len
  have hn6 : n ≤ 6 := by have := hvo.1; rw [hlen.out] at this; exact this
  have hmk := run_make_row' (P := Try.prog) 22 3 (.int .i64 0) 8 Try.underlying22 infoInt rfl .i64 .i64 n (by omega) (by omega)
  have Hsl := Lib.hid (show (sumsL zs vs).length = n by rw [sumsL_len, hlen.out])
  have bV0 := (Boxed.new w 22 (.slice A' n c')).alloc (.cells (madeCells #[.int .i64 0] n) 3)
  have aZ0 := Arr.new (w.alloc (.cells #[Value.slice A' n c'] 22)) 3 n
  have hu0 : Upd (fun _ => False) w ((w.alloc (.cells #[Value.slice A' n c'] 22)).alloc (.cells (madeCells #[.int .i64 0] n) 3)) := ((Upd.refl _ w).alloc _).alloc _
  have hz0 : ((w.alloc (.cells #[Value.slice A' n c'] 22)).alloc (.cells (madeCells #[.int .i64 0] n) 3)).heap.size = w.heap.size + 2 := by simp
  simp only [World.size_alloc] at aZ0
  go_enter Try.func41, Try.ntmps41
  go_wp2
  obtain ⟨W0, hW0⟩ : ∃ W0, (w.alloc (.cells #[Value.slice A' n c'] 22)).alloc (.cells (madeCells #[.int .i64 0] n) 3) = W0 := ⟨_, rfl⟩
  rw [hW0] at bV0 aZ0 hu0 hz0 ⊢
  clear hW0 hmk
  go_loopw [12] (fun i wr => ∃ k : Nat, k ≤ n ∧ i = .int .i64 k ∧ Arr wr (w.heap.size + 1) 3 (copied (sumsL zs vs) n k) ∧ Upd (fun k => k = w.heap.size + 1) W0 wr) (fun i _ => n - (intOf i).toNat)
  case atStart => exact ⟨0, by omega, rfl, by rw [copied_zero]; exact aZ0, Upd.refl _ _⟩
  case round =>
    obtain ⟨k, hk, rfl, hZ, hU⟩ := hrel
    have hsr := hU.size
    by_cases hlt : k < n
    · have hob := one_bd hlt
      have hbel := belI_bd hvo.sets (s := orI 0 (powI (k : Int))) hob.1 (by rw [hlen.out]; exact hob.2)
      rw [hlen.out] at hbel
      have hpn := powI_le6 (n := (n : Int)) (by omega)
      have Hls := Lib.hid (lsum_below (vs := vs) hvo (a := k) (by rw [hlen.out]; exact hlt))
      have Hin := Lib.hid (show ∀ x ∈ itemsL (belI zs (orI 0 (powI (k : Int)))), x < n from fun x hx => bitB_lt hbel.2 ((mem_itemsL (by omega)).1 hx))
      have Hcp := Lib.hid (copied_succ Hsl.out hlt)
      have Hget := Lib.hid (show (sumsL zs vs)[k]?.getD 0 = sbI zs vs k from sumsL_get (by rw [hlen.out]; exact hlt))
      have Hcl := Lib.hid (copied_len Hsl.out hk)
      have hUw : Upd (fun _ => False) w wr := hu0.trans' hU (fun i hi e => by omega)
      have hAr : Ints wr wr.heap.size A n zs := (hA.below (hUw.toBelow (fun _ e => e.elim) (Nat.le_refl _))).more (by omega)
      have bVr := hU.boxed bV0 (fun e => by omega)
      have hw2 := fun w => with_any 0 (k : Int) w (by omega) (by omega) (by omega) (by omega)
      have hbelow := obelow_any A n c zs (orI 0 (powI (k : Int))) hvo wr hAr hob.1 hob.2
      generalize belI zs (orI 0 (powI (k : Int))) = bb at *
      generalize orI 0 (powI (k : Int)) = ob at *
      go_wp2_with fail
      refine (hw2 _).mono ?_
      rintro e w' ⟨rfl, rfl⟩
      go_wp2_with fail
      refine hbelow.mono ?_
      rintro e w2 ⟨rfl, hB2⟩
      have z2 := hB2.size
      have hU2 := hU.below hB2 (fun k h1 h2 => by omega)
      go_wp2_with fail
      refine (each_any bb w2).mono ?_
      rintro e w' ⟨rfl, rfl⟩
      have bE := Boxed.new w2 57 (.int .i64 bb)
      have hU3 := hU2.alloc (.cells #[Value.int .i64 bb] 57)
      have hz3 : (w2.alloc (.cells #[Value.int .i64 bb] 57)).heap.size = w2.heap.size + 1 := by simp
      have hZ3 := (hZ.upd (Below.toUpd hB2) (fun e => by omega)).alloc (.cells #[Value.int .i64 bb] 57)
      obtain ⟨W3, hW3⟩ : ∃ W3, w2.alloc (.cells #[Value.int .i64 bb] 57) = W3 := ⟨_, rfl⟩
      rw [hW3] at bE hU3 hz3 hZ3 ⊢
      clear hW3
      have hU3w : Upd (fun _ => False) w W3 := hu0.trans' hU3 (fun i hi e => by omega)
      have bV3 := hU3.boxed bV0 (fun e => by omega)
      have hV3 : Ints W3 w.heap.size A' n vs := hV.below (hU3w.toBelow (fun _ e => e.elim) (Nat.le_refl _))
      go_wp2_with fail
      refine (sumOver_any (gf := 103) (vf := 78) #[.pointer (some ⟨w2.heap.size, 0, none⟩)] #[.pointer (some ⟨w.heap.size, 0, none⟩)] (itemsL bb) (fun x => vs[x]?.getD 0) W3 (fun _ => False) (fun _ e => e.elim) (fun _ _ => True)
        (enters_of Try.func103 (by kernel_rfl) rfl) (enters_of Try.func78 (by kernel_rfl) rfl)
        (fun pre hp => pre_small (B := 1000) (by omega) (by omega) (fun x => by have := valB_at hvb x; omega) pre hp)
        (fun W1 M' hu1 hM' => each_iter bb hbel.1 (by omega) w2.heap.size M' W1 (hu1.boxed bE (fun e => e)) (fun e => (hM' w2.heap.size e).elim (fun e => e) (fun e => by omega)))
        (fun pre x W hp _ hu => (sums1_any w.heap.size A' n c' x w.heap.size vs W (hu.boxed bV3 (fun e => e)) (hV3.below (hu.toBelow (fun _ e => e.elim) (by have := hU3w.size; omega))) (Hin.out x (hp.subset (by simp)))).mono fun e W' h => ⟨h.1, trivial, h.2 ▸ Upd.refl _ _⟩)
        (fun _ _ _ _ _ _ => trivial) trivial).mono ?_
      rw [Hls.out]
      rintro e w4 ⟨rfl, -, hU4⟩
      have hZ4 := hZ3.upd hU4 (fun e => e)
      have hU5 := hU3.trans' hU4 (fun i hi e => e.elim)
      have hcs := hZ4.cell (k := k) (by rw [Hcl.out]; exact hlt)
      have hfs := hZ4.frozen k
      go_wp2_with fail
      go_roundw
      case rel => exact ⟨k + 1, by omega, by go_num, by rw [← Hcp.out, Hget.out]; exact hZ4.set _ _, hU5.setCell (p := ⟨w.heap.size + 1, k, none⟩) (.inr rfl) _⟩
      case measure => simp [intOf]; omega
    · obtain rfl : k = n := by omega
      have Hfull := Lib.hid (copied_full Hsl.out)
      go_wp2
      go_ret
      exact ⟨_, rfl, by omega, by rw [← Hfull.out]; exact hZ, (hu0.trans' hU (fun i hi e => by omega)).toBelow (fun _ e => e.elim) (Nat.le_refl _)⟩

theorem SumsBelow_any (A : Option Addr) (n c : Nat) (zs : List Int) (A' : Option Addr) (n' c' : Nat) (vs : List Int) (w : World) (h : Ints w w.heap.size A n zs) (h' : Ints w w.heap.size A' n' vs) (hbig : n ≤ 1152921504606846976) (hbig' : n' ≤ 1152921504606846976) :
    Calls Try.prog 16 #[.slice A n c, .slice A' n' c'] w (GivesRow w (sumsR zs vs)) := by
  have hlen := Lib.hid h.len
  have hlen' := Lib.hid h'.len
  go_enter Try.func16, Try.ntmps16
  go_wp2_with fail
  refine (readValued_any A n c zs A' n' c' vs w h h' hbig hbig').mono ?_
  rintro e w1 ⟨hB, (⟨hv, b, rfl, hb, hAr⟩ | ⟨hv, rfl⟩)⟩
  · obtain ⟨hvo, hl, hvb⟩ := valR_parts hv
    obtain rfl : n' = n := by have h1 := hlen.out; have h2 := hlen'.out; omega
    have Ht := Lib.hid (show sumsR zs vs = sumsL zs vs by unfold sumsR; rw [hv]; rfl)
    have hz := hB.size
    clear hv
    go_wp2_with fail
    refine (osumsBelow_any _ n' _ zs A' c' vs hvo hvb w1 (hAr.ints' hAr.lt hlen.out) (h'.to hB (Nat.le_refl _) hz)).mono ?_
    rintro e w2 ⟨Z, rfl, hZ, hZA, hB2⟩
    go_wp2_with fail
    go_ret
    exact ⟨_, n', n', rfl, by rw [Ht.out]; exact Row.of hZA (by rw [sumsL_len, hlen.out]) (by omega) hZA.lt, hB.trans (hB2.mono hz)⟩
  · have Ht := Lib.hid (show sumsR zs vs = [] by unfold sumsR; rw [hv]; rfl)
    go_wp2_with fail
    go_ret
    exact ⟨none, 0, 0, rfl, by rw [Ht.out]; exact Row.nil _ _ _ _, hB⟩
end Go.Proofs.Ytopfeebibphdgaa

/- The number of two items: the model's, and its sum over chains. -/
namespace Go.Proofs.Ytopfeebibphdgaa
open Go.RowKit Go.Shelf
attribute [local go_sem] Oper.semAt_some
attribute [local go_sem, local simp] wide_fn

/-- The sum that the number of two items is less of, up to k. -/
def muS (zs : List Int) (a b k : Nat) : Int := smTo (fun c => if muC zs a b c then muI zs a c else 0) k
theorem muS_bd {zs : List Int} (h : VoP zs) (a b : Nat) {k : Nat} (hk : k ≤ 6) : -1679616 ≤ muS zs a b k ∧ muS zs a b k ≤ 1679616 := by
  have := smTo_bd (g := fun c => if muC zs a b c then muI zs a c else 0) (B := 279936) (by omega) k fun c _ => by
    have := muI_bd h.1 a c
    skip
    split <;> omega
  have e : (k : Int) * 279936 ≤ 1679616 := by omega
  unfold muS
  omega
theorem muS_yes {zs : List Int} {a b k : Nat} (h : muC zs a b k = true) : - muS zs a b (k + 1) = - muS zs a b k - muI zs a k := by
  unfold muS; rw [smTo_succ, h, if_pos rfl]; omega
theorem muS_no {zs : List Int} {a b k : Nat} (h : muC zs a b k = false) : muS zs a b (k + 1) = muS zs a b k := by
  unfold muS; rw [smTo_succ, h]; simp

set_option maxRecDepth 100000 in
set_option maxHeartbeats 2000000 in
theorem smobius_any (A : Option Addr) (n c : Nat) (zs : List Int) (hvo : VoP zs) (hlen0 : zs.length = n) : ∀ (f a b B : Nat) (w : World), Ints w B A n zs → rank zs b < f → a < n → b < n →
    Calls Try.prog 44 #[.slice A n c, .int .i64 (a : Int), .int .i64 (b : Int)] w fun e w' => e = .returned (.int .i64 (muI zs a b)) ∧ ∃ m, w' = w.drewN m
  | 0, _, _, _, _, _, hr, _, _ => absurd hr (Nat.not_lt_zero _)
  | f + 1, a, b, B, w, h, hr, ha, hb => by
    have ih := smobius_any A n c zs hvo hlen0 f
    have hlen := Lib.hid hlen0
    have hn6 : n ≤ 6 := by have := hvo.1; rw [hlen0] at this; exact this
    clear hlen0
    by_cases hab : a = b
    · subst hab
      have Ht := Lib.hid (muI_self zs a)
      go_enter Try.func44, Try.ntmps44
      go_wp2
      go_ret
      exact ⟨ret_int Ht.out.symm, 0, rfl⟩
    · have hne : ((a : Int) == (b : Int)) = false := by simpa using (show ¬ (a : Int) = (b : Int) by omega)
      obtain ⟨bl, off, rfl, _, hc⟩ := h.at_ ha
      have hca := hc a ha
      have hza := hvo.bd a (by rw [hlen.out]; exact ha)
      cases hu : upw zs a b
      · have Ht := Lib.hid (muI_no hab hu)
        have hbi : (bitI (zs[a]?.getD 0) b == 0) = true := by unfold upw at hu; rw [bitI_false hu]; rfl
        clear hc hu
        generalize zs[a]?.getD 0 = za at *
        go_enter Try.func44, Try.ntmps44
        go_wp2_with (go_at_call 48; refine (bit_any _ _ _ (by omega) (by omega) (by omega) (by omega)).mono ?_; rintro e w' ⟨rfl, rfl⟩)
        go_ret
        exact ⟨ret_int Ht.out.symm, 0, rfl⟩
      · have hl := upw_lt.1 hu
        have Ht := Lib.hid (show muI zs a b = - muS zs a b n by rw [muI_rec hvo hl]; unfold muS; rw [hlen.out])
        have hbi : (bitI (zs[a]?.getD 0) b == 0) = false := by unfold upw at hu; rw [bitI_true hu]; rfl
        have Hc := Lib.hid hc
        clear hc
        go_enter Try.func44, Try.ntmps44
        go_wp2_with (go_at_call 48; refine (bit_any _ _ _ (by omega) (by omega) (by omega) (by omega)).mono ?_; rintro e w' ⟨rfl, rfl⟩)
        clear hbi
        go_loopw [7, 8] (fun t i wr => ∃ k q : Nat, k ≤ n ∧ i = .int .i64 k ∧ t = .int .i64 (- muS zs a b k) ∧ wr = w.drewN q) (fun _ i _ => n - (intOf i).toNat)
        case atStart => exact ⟨0, 0, by omega, rfl, rfl, rfl⟩
        case round =>
          obtain ⟨k, q, hk, rfl, rfl, rfl⟩ := hrel
          by_cases hlt : k < n
          · have hck := Hc.out k hlt
            have hz := hvo.bd k (by rw [hlen.out]; exact hlt)
            have hsb := muS_bd hvo a b (k := k) (by omega)
            have hmb := muI_bd hvo.1 a k
            by_cases hka : k = a
            · have hcy : muC zs a b k = true := by unfold muC; rw [hka]; simp
              have hq1 : ((k : Int) == (a : Int)) = true := by rw [hka]; simp
              have Hn := Lib.hid (show - muS zs a b (k + 1) = - muS zs a b k - 1 by rw [muS_yes hcy, hka, muI_self])
              have hrk : rank zs k < f := by have := rank_lt hvo hl; rw [hka]; omega
              have hcall := fun w h => ih a k B w h hrk ha hlt
              clear ih hr hka hcy hu hl hz hza hck hca
              go_wp2
              go_roundw
              case rel => exact ⟨k + 1, _, by omega, by go_num, by rw [Hn.out], rfl⟩
              case measure => simp [intOf]; omega
            · have hq1 : ((k : Int) == (a : Int)) = false := by simpa using (show ¬ (k : Int) = (a : Int) by omega)
              have hka' : (k == a) = false := by simpa using hka
              cases h1 : bitB (zs[a]?.getD 0) k
              · have Hn := Lib.hid (muS_no (show muC zs a b k = false by unfold muC upw; rw [hka', h1]; rfl))
                have hb1 : (bitI (zs[a]?.getD 0) k == 1) = false := by rw [bitI_one, h1]
                generalize zs[a]?.getD 0 = za at *
                go_wp2_with (go_at_call 48; refine (bit_any _ _ _ (by omega) (by omega) (by omega) (by omega)).mono ?_; rintro e w' ⟨rfl, rfl⟩)
                go_roundw
                case rel => exact ⟨k + 1, _, by omega, by go_num, by rw [Hn.out], rfl⟩
                case measure => simp [intOf]; omega
              · have hb1 : (bitI (zs[a]?.getD 0) k == 1) = true := by rw [bitI_one, h1]
                cases h2 : bitB (zs[k]?.getD 0) b
                · have Hn := Lib.hid (muS_no (show muC zs a b k = false by unfold muC upw; rw [hka', h1, h2]; rfl))
                  have hb2 : (bitI (zs[k]?.getD 0) b == 1) = false := by rw [bitI_one, h2]
                  generalize zs[a]?.getD 0 = za at *
                  generalize zs[k]?.getD 0 = zk at *
                  go_wp2_with (go_at_call 48; refine (bit_any _ _ _ (by omega) (by omega) (by omega) (by omega)).mono ?_; rintro e w' ⟨rfl, rfl⟩)
                  go_roundw
                  case rel => exact ⟨k + 1, _, by omega, by go_num, by rw [Hn.out], rfl⟩
                  case measure => simp [intOf]; omega
                · have Hn := Lib.hid (muS_yes (show muC zs a b k = true by unfold muC upw; rw [hka', h1, h2]; rfl))
                  have hb2 : (bitI (zs[k]?.getD 0) b == 1) = true := by rw [bitI_one, h2]
                  have hrk : rank zs k < f := by have := rank_lt hvo (upw_lt.1 (show upw zs k b = true from h2)); omega
                  have hcall := fun w h => ih a k B w h hrk ha hlt
                  clear ih hr
                  generalize zs[a]?.getD 0 = za at *
                  generalize zs[k]?.getD 0 = zk at *
                  go_wp2_with (first
                    | (go_at_call 48; refine (bit_any _ _ _ (by omega) (by omega) (by omega) (by omega)).mono ?_; rintro e w' ⟨rfl, rfl⟩)
                    | (go_at_call 44; refine (hcall _ (h.drewN q)).mono ?_; rintro e w' ⟨rfl, m2, rfl⟩))
                  go_roundw
                  case rel => exact ⟨k + 1, _, by omega, by go_num, by rw [Hn.out], rfl⟩
                  case measure => simp [intOf]; omega
          · obtain rfl : k = n := by omega
            go_wp2
            go_ret
            exact ⟨ret_int Ht.out.symm, _, rfl⟩

/-- What SignOf answers. -/
def signR (zs : List Int) (a b : Int) : Int := if vo zs && (isIt zs a && isIt zs b) then muI zs a.toNat b.toNat else -1000

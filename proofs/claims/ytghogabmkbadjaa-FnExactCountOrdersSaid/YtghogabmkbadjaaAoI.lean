/- All orders of n items: the program's iterator, which lends one block. -/
import Derived.Test.YtghogabmkbadjaaChT
import Derived.Test.YtghogabmkbadjaaGa
import Derived.Test.YtghogabmkbadjaaGxj
set_option linter.unusedVariables false
set_option linter.unusedSimpArgs false
namespace Go.Proofs.Ytghogabmkbadjaa
open Go.RowKit Go.Shelf
attribute [local go_sem] Oper.semAt_some
attribute [local go_sem, local simp] wide_fn

/-- An order, and the block that is lent. -/
abbrev Oa := List Int × Nat
def oaOwn (_ : Oa) (_ : Nat) : Prop := False
def oaLent (x : Oa) (k : Nat) : Prop := k = x.2
def oaHas (_ : Oa) (_ : World) : Prop := True
def oaLies (x : Oa) (W : World) : Prop := Arr W x.2 59 x.1
abbrev oaEnc (n : Nat) (x : Oa) : Array Value := #[.slice (some ⟨x.2, 0, none⟩) n n]
def oaUp (n : Nat) (xs : List Oa) : Prop := xs.map Prod.fst <+: oaL n
def oaFull (n : Nat) (xs : List Oa) : Prop := xs.map Prod.fst = oaL n
theorem oa_firm : HasFirm oaOwn oaHas := fun _ _ _ _ _ => trivial
theorem oaLent_firm : HasFirm oaLent oaLies := fun _ _ _ h hu => Arr.upd h hu (fun e => e rfl)
/-- Those of the first choices. -/
def oaX (n g k : Nat) : List Oa := (((List.range k).map (chK n n)).filter vo).map fun r => (r, g)
theorem oaX_yes {n g k : Nat} (h : vo (chK n n k) = true) : oaX n g (k + 1) = oaX n g k ++ [(chK n n k, g)] := by
  unfold oaX
  rw [List.range_succ, List.map_append, List.filter_append]
  simp [h]
theorem oaX_no {n g k : Nat} (h : vo (chK n n k) = false) : oaX n g (k + 1) = oaX n g k := by
  unfold oaX
  rw [List.range_succ, List.map_append, List.filter_append]
  simp [h]
theorem oaX_fst (n g k : Nat) : (oaX n g k).map Prod.fst = ((List.range k).map (chK n n)).filter vo := by
  unfold oaX
  rw [List.map_map]
  exact List.map_id _
theorem oaX_up {n g k C : Nat} (hC : 2 ^ (n * n) = C) (hk : k ≤ C) : oaUp n (oaX n g k) := by
  unfold oaUp oaL
  rw [oaX_fst, hC]
  obtain ⟨d, hd⟩ := Nat.exists_eq_add_of_le hk
  rw [hd, List.range_add, List.map_append, List.filter_append]
  exact List.prefix_append _ _
theorem chK_sets {n : Nat} (hn : n ≤ 6) (k : Nat) : Sets (chK n n k) := by
  refine ⟨by rw [chK_len]; exact hn, fun a ha => ?_⟩
  rw [chK_len] at ha ⊢
  have : (chK n n k)[a]?.getD 0 = ((k / 2 ^ (n * (n - 1 - a)) % 2 ^ n : Nat) : Int) := by simp [chK, ha]
  rw [this]
  have hp : powI (n : Int) = ((2 ^ n : Nat) : Int) := by simp [powI]
  have hl := Nat.mod_lt (k / 2 ^ (n * (n - 1 - a))) (Nat.two_pow_pos n)
  rw [hp]
  exact ⟨by omega, by exact_mod_cast hl⟩

set_option maxRecDepth 100000 in
set_option maxHeartbeats 4000000 in
theorem allOrders_iter (n : Nat) (hn : n ≤ 4) (b : Nat) (M : Nat → Prop) (w : World) (bN : Boxed w b 3 (.int .i64 (n : Int))) (hMb : ∀ k, M k → k < w.heap.size) :
    IterH Try.prog 83 #[.pointer (some ⟨b, 0, none⟩)] (oaEnc n) oaOwn oaLent oaHas oaLies (oaUp n) (oaFull n) M w := fun l J Jx hJ hJx hY h0 => by
  have hbl := bN.lt
  have HY := Lib.hid hY
  clear hY
  obtain ⟨C, hC⟩ : ∃ C, 2 ^ (n * n) = C := ⟨_, rfl⟩
  have hC16 : 1 ≤ C ∧ C ≤ 65536 := by
    rw [← hC]
    have h1 : n * n ≤ 16 := Nat.mul_le_mul hn hn
    exact ⟨Nat.one_le_two_pow, Nat.pow_le_pow_right (n := 2) (j := 16) (by decide) h1⟩
  have HC := Lib.hid hC
  clear hC
  have hmk := run_make_row' (P := Try.prog) 44 59 (.int .i64 0) 8 Try.underlying44 infoItems rfl .i64 .i64 n (by omega) (by omega)
  refine (callsIn_wide (n := 9)).1 ?_
  refine callsIn_of_wp Try.func83 rfl trivial ?_ rfl
  simp only [Try.ntmps83, List.size_toArray, List.length_cons, List.length_nil, Nat.reduceAdd, Nat.reduceSub, Array.replicate_succ, Array.replicate_zero, List.push_toArray, List.append_toArray, List.nil_append, List.cons_append]
  obtain ⟨Q, hQ⟩ : ∃ Q, n * n = Q := ⟨_, rfl⟩
  have hQ16 : Q ≤ 16 := by rw [← hQ]; exact Nat.mul_le_mul hn hn
  have hwq : wrap64 ((n : Int) * (n : Int)) = (Q : Int) := by
    have : (n : Int) * (n : Int) = (Q : Int) := by rw [← hQ]; norm_cast
    rw [this]
    exact IntWalk.wrap64_in _ ⟨by omega, by omega⟩
  have hwc : wrap64 ((2 : Int) ^ Q) = (C : Int) := by
    have : (2 : Int) ^ Q = (C : Int) := by rw [← HC.out, hQ]; norm_cast
    rw [this]
    exact IntWalk.wrap64_in _ ⟨by omega, by omega⟩
  have Hwc := Lib.hid hwc
  clear hQ hwc
  have hc0 := bN.cell
  have aG := Arr.new w 59 n
  have hu1 : Upd (fun _ => False) w (w.alloc (.cells (madeCells #[Value.int .i64 0] n) 59)) := (Upd.refl _ w).alloc _
  have hc1 := (hu1.boxed bN (fun e => e)).cell
  gi_wp2
  rw [Hwc.out]
  obtain ⟨g, hg⟩ : ∃ g, w.heap.size = g := ⟨_, rfl⟩
  obtain ⟨Wc, hWc⟩ : ∃ Wc, w.alloc (.cells (madeCells #[Value.int .i64 0] n) 59) = Wc := ⟨_, rfl⟩
  have hzc : Wc.heap.size = g + 1 := by rw [← hWc, ← hg]; simp
  rw [hWc] at aG hu1 hc1 ⊢
  rw [hg] at aG hbl ⊢
  clear hWc
  have hjc : J [] (fun _ => False) Wc := hJ _ _ _ _ h0 (hu1.mono fun _ _ e => e.elim)
  have hMg : ∀ k, M k → k < g := fun k e => by have := hMb k e; omega
  have Hg := Lib.hid hg
  clear hc0 hc1 hmk
  simp only [hwq]
  gi_loopw [11] (fun i wr => ∃ (k : Nat) (D : Nat → Prop) (cur : List Int), k ≤ C ∧ i = .int .i64 k ∧ J (oaX n g k) D wr ∧ (∀ j, D j → g + 1 ≤ j) ∧ Arr wr g 59 cur ∧ cur.length = n ∧ Upd (fun j => M j ∨ j = g) Wc wr) (fun i _ => C - (intOf i).toNat)
  case atStart => exact ⟨0, fun _ => False, _, by omega, rfl, hjc, fun _ e => e.elim, aG, by simp, Upd.refl _ _⟩
  case round =>
    obtain ⟨k, D, cur, hk, rfl, hj, hD, hAr, hcl, hU⟩ := hrel
    rename World => wr
    have zU := hU.size
    by_cases hlt : k < C
    · gi_wp2_with fail
      refine (callsIn_wide.2 (chooseSets_any g n n k cur hn hcl (by omega) wr hAr)).mono ?_
      rintro e w2 ⟨⟨v2, rfl⟩, hA2, hu2⟩
      have z2 := hu2.size
      have hj2 := hJ _ _ _ _ hj (hu2.mono (S := fun j => w.heap.size ≤ j ∧ ¬ D j) fun j _ e => ⟨by omega, fun e2 => by have := hD j e2; omega⟩)
      have hU2 : Upd (fun j => M j ∨ j = g) Wc w2 := hU.trans' hu2 (fun i hi e => .inr e)
      have hsets := chK_sets (n := n) (by omega) k
      have hIs := isOrder_any (some ⟨g, 0, none⟩) n n (chK n n k) hsets w2 (hA2.ints' hA2.lt (chK_len n n k))
      rw [iso_vo hsets] at hIs
      cases hv : vo (chK n n k)
      · have Hx := Lib.hid (oaX_no (g := g) hv)
        rw [hv] at hIs
        gi_wp2_with (gi_at_call 73; refine (callsIn_wide.2 hIs).mono ?_; rintro e w3 ⟨rfl, hB3⟩)
        have z3 := hB3.size
        have hj3 := hJ _ _ _ _ hj2 ((Below.toUpd hB3).mono (S := fun j => w.heap.size ≤ j ∧ ¬ D j) fun j h1 e => absurd h1 (by omega))
        have hU3 : Upd (fun j => M j ∨ j = g) Wc w3 := hU2.trans' (Below.toUpd hB3) (fun i h1 e => absurd e (by omega))
        have hA3 := hA2.below hB3 hA2.lt
        have hcl3 := chK_len n n k
        generalize chK n n k = r at *
        go_roundw
        case rel => exact ⟨k + 1, D, r, by omega, by go_num, by rw [Hx.out]; exact hj3, hD, hA3, hcl3, hU3⟩
        case measure => simp [intOf]; omega
      · have Hx := Lib.hid (oaX_yes (g := g) hv)
        have Hup := Lib.hid (show oaUp n (oaX n g k ++ [(chK n n k, g)]) by rw [← oaX_yes hv]; exact oaX_up HC.out (by omega))
        rw [hv] at hIs
        have hcl3 := chK_len n n k
        generalize chK n n k = r at *
        gi_wp2_with fail
        refine (callsIn_wide.2 hIs).mono ?_
        rintro e w3 ⟨rfl, hB3⟩
        have z3 := hB3.size
        have hj3 := hJ _ _ _ _ hj2 ((Below.toUpd hB3).mono (S := fun j => w.heap.size ≤ j ∧ ¬ D j) fun j h1 e => absurd h1 (by omega))
        have hU3 : Upd (fun j => M j ∨ j = g) Wc w3 := hU2.trans' (Below.toUpd hB3) (fun i h1 e => absurd e (by omega))
        have hA3 := hA2.below hB3 hA2.lt
        have hl3 := hA3.lt
        obtain ⟨fn, tmps, assign, body, hy, hR⟩ := HY.out _ (r, g) D w3 hj3 (by omega) Hup.out trivial hA3 (fun j e => e.elim) (fun j e => by have e2 : j = g := e; subst e2; exact ⟨by omega, hl3, fun e3 => by have := hD _ e3; omega⟩) 8
        gi_wp2
        refine hR.mono ?_
        rintro e W4 (⟨rfl, D', hJ4, hL4, hLD, hU4, hD'⟩ | ⟨rfl, D', hJ4, hU4, hD'⟩)
        · have hz4 := hU4.size
          have hU5 : Upd (fun j => M j ∨ j = g) Wc W4 := hU3.trans' hU4 (fun i hi e => by
            rcases e with e | e | e | e
            · exact .inl e
            · have := hD i e; omega
            · exact e.elim
            · exact .inr e)
          gi_wp2
          go_roundw
          case rel => exact ⟨k + 1, D', r, by omega, by go_num, by rw [Hx.out]; exact hJ4, fun j hj9 => by
            rcases hD' j hj9 with (e | e) | e
            · exact hD j e
            · exact e.elim
            · omega, hL4, hcl3, hU5⟩
          case measure => simp [intOf]; omega
        · gi_wp2
          refine bodyPost_ret (results_none rfl _ _ _) rfl ?_
          exact ⟨⟨_, rfl⟩, .inr ⟨_, D', Hup.out, hJ4⟩⟩
    · obtain rfl : k = C := by omega
      have Hf := Lib.hid (show oaFull n (oaX n g k) by unfold oaFull oaL; rw [oaX_fst, HC.out])
      gi_wp2
      go_end0
      exact ⟨⟨_, rfl⟩, .inl ⟨_, D, Hf.out, hj⟩⟩
end Go.Proofs.Ytghogabmkbadjaa

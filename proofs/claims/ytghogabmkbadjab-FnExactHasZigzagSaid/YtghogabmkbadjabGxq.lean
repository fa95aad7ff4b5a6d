/- Texts that several claims share, one behind the other. -/
import Derived.Test.YtghogabmkbadjabGc
import Derived.Test.YtghogabmkbadjabGxf
import Derived.Test.YtghogabmkbadjabGa
import Derived.Test.YtghogabmkbadjabGxh
import Derived.Test.YtghogabmkbadjabGb
import Derived.Test.YtghogabmkbadjabGd
set_option linter.unusedVariables false
set_option linter.unusedSimpArgs false
/- Two pairs apart, three items and one apart: the program's. -/
namespace Go.Proofs.Ytghogabmkbadjab
open Go.RowKit Go.Shelf
attribute [local go_sem] Oper.semAt_some
attribute [local go_sem, local simp] wide_fn

theorem zero_or (x : Int) (h : 0 ≤ x) : orI 0 x = x := by unfold orI; simp; omega

set_option maxRecDepth 100000 in
set_option maxHeartbeats 4000000 in
theorem orelated_any (A : Option Addr) (n c : Nat) (zs : List Int) (x : Nat) (hvo : VoP zs) (w : World) (hA : Ints w w.heap.size A n zs) (hx : x < n) :
    Calls Try.prog 157 #[.slice A n c, .int .i64 (x : Int)] w fun e W' => e = .returned (.int .i64 (relI zs x)) ∧ Below w.heap.size w W' := by
  have hlen := Lib.hid hA.len
  have hn6 : n ≤ 6 := by have := hvo.1; rw [hlen.out] at this; exact this
  obtain ⟨bl, off, rfl, hbl, hc⟩ := hA.at_ hx
  have hcx := hc x hx
  clear hc
  have hzx := hvo.bd x (by rw [hlen.out]; exact hx)
  have hpp := powI_pos (x : Int)
  have hpx : powI (x : Int) < powI (n : Int) := powI_lt hx
  have hpn := powI_le6 (n := (n : Int)) (by omega)
  have hbel := belI_bd hvo.sets (s := powI (x : Int)) (by omega) (by rw [hlen.out]; exact hpx)
  rw [hlen.out] at hbel
  have hw1 := fun w => with_any 0 (x : Int) w (by omega) (by omega) (by omega) (by omega)
  rw [zero_or _ (by omega)] at hw1
  have hor : bits .or .i64 (zs[x]?.getD 0) (belI zs (powI (x : Int))) = relI zs x := bits_or (by omega) (by omega) (by omega) (by omega)
  have hbelow := fun w hA => obelow_any (some ⟨bl, off, none⟩) n c zs (powI (x : Int)) hvo w hA (by omega) hpx
  generalize belI zs (powI (x : Int)) = bb at *
  generalize powI (x : Int) = px at *
  generalize relI zs x = r at *
  generalize zs[x]?.getD 0 = zx at *
  go_enter Try.func157, Try.ntmps157
  go_wp2
  refine region_T (S := (fun w' => w'.cell? ⟨bl, off + x, none⟩ = some (.int .i64 zx))) 9 (by kernel_rfl) ?_
  have hSd : (fun w' => w'.cell? ⟨bl, off + x, none⟩ = some (.int .i64 zx)) w.drew := hcx
  have hAd : Ints w.drew w.drew.heap.size (some ⟨bl, off, none⟩) n zs := hA
  have hWd : Upd (fun _ => False) w w.drew := (Upd.refl _ w).drew
  obtain ⟨Wd, hWd2⟩ : ∃ Wd, w.drew = Wd := ⟨_, rfl⟩
  rw [hWd2] at hSd hAd hWd ⊢
  clear hWd2
  refine anyT_take (i := 0) (oi := ?oi0a) (v := .slice (some ⟨bl, off, none⟩) n c) ?hi0a (by kernel_rfl) ?hq0a ?hy0a (by assumption) ?rest0a
  case hi0a => (simp only [List.getElem?_toArray, List.getElem?_cons_zero]; first | done | rfl)
  case hq0a => first | exact fun _ _ _ h => h | exact fun _ _ _ h => (by cases h.1)
  case hy0a => (refine Or.inl ⟨by rfl, ?_⟩; intro wz hSw; go_simp; first | done | with_reducible rfl | simp | omega)
  try simp only [Act.put, List.setIfInBounds_toArray, List.set_cons_zero, List.set_cons_succ]
  refine anyT_take (i := 1) (oi := ?oi1a) (v := .int .i64 (x : Int)) ?hi1a (by kernel_rfl) ?hq1a ?hy1a (by assumption) ?rest1a
  case hi1a => (simp only [List.getElem?_toArray, List.getElem?_cons_succ, List.getElem?_cons_zero]; first | done | rfl)
  case hq1a => first | exact fun _ _ _ h => h | exact fun _ _ _ h => (by cases h.1)
  case hy1a => (refine Or.inl ⟨by rfl, ?_⟩; intro wz hSw; go_simp; first | done | with_reducible rfl | simp | omega)
  try simp only [Act.put, List.setIfInBounds_toArray, List.set_cons_zero, List.set_cons_succ]
  refine anyT_take (i := 2) (oi := ?oi2a) (v := .pointer (some ⟨bl, off + x, none⟩)) ?hi2a (by kernel_rfl) ?hq2a ?hy2a (by assumption) ?rest2a
  case hi2a => (simp only [List.getElem?_toArray, List.getElem?_cons_succ, List.getElem?_cons_zero]; first | done | rfl)
  case hq2a => first | exact fun _ _ _ h => h | exact fun _ _ _ h => (by cases h.1)
  case hy2a => (refine Or.inl ⟨by rfl, ?_⟩; intro wz hSw; go_simp; first | done | with_reducible rfl | simp | omega)
  try simp only [Act.put, List.setIfInBounds_toArray, List.set_cons_zero, List.set_cons_succ]
  refine anyT_take (i := 3) (oi := ?oi3a) (v := .int .i64 zx) ?hi3a (by kernel_rfl) ?hq3a ?hy3a (by assumption) ?rest3a
  case hi3a => (simp only [List.getElem?_toArray, List.getElem?_cons_succ, List.getElem?_cons_zero]; first | done | rfl)
  case hq3a => first | exact fun _ _ _ h => h | exact fun _ _ _ h => (by cases h.1)
  case hy3a => (refine Or.inl ⟨by rfl, ?_⟩; intro wz hSw; obtain hS1 := hSw; go_simp; first | done | with_reducible rfl | simp | omega)
  try simp only [Act.put, List.setIfInBounds_toArray, List.set_cons_zero, List.set_cons_succ]
  refine anyT_take (i := 4) (oi := ?oi4a) (v := .slice (some ⟨bl, off, none⟩) n c) ?hi4a (by kernel_rfl) ?hq4a ?hy4a (by assumption) ?rest4a
  case hi4a => (simp only [List.getElem?_toArray, List.getElem?_cons_succ, List.getElem?_cons_zero]; first | done | rfl)
  case hq4a => first | exact fun _ _ _ h => h | exact fun _ _ _ h => (by cases h.1)
  case hy4a => (refine Or.inl ⟨by rfl, ?_⟩; intro wz hSw; go_simp; first | done | with_reducible rfl | simp | omega)
  try simp only [Act.put, List.setIfInBounds_toArray, List.set_cons_zero, List.set_cons_succ]
  refine anyT_take (i := 5) (oi := ?oi5a) (v := .int .i64 (x : Int)) ?hi5a (by kernel_rfl) ?hq5a ?hy5a (by assumption) ?rest5a
  case hi5a => (simp only [List.getElem?_toArray, List.getElem?_cons_succ, List.getElem?_cons_zero]; first | done | rfl)
  case hq5a => first | exact fun _ _ _ h => h | exact fun _ _ _ h => (by cases h.1)
  case hy5a => (refine Or.inl ⟨by rfl, ?_⟩; intro wz hSw; go_simp; first | done | with_reducible rfl | simp | omega)
  try simp only [Act.put, List.setIfInBounds_toArray, List.set_cons_zero, List.set_cons_succ]
  refine anyT_one (i := 6) (by kernel_rfl) rfl (fun K' hK => ?_)
  go_simp
  refine (hw1 _).mono ?_
  rintro e w' ⟨rfl, rfl⟩
  refine hK.out _ _ (fun _ => hSd) ?_
  clear hK K'
  try simp only [Act.put, List.setIfInBounds_toArray, List.set_cons_zero, List.set_cons_succ]
  refine anyT_one (i := 7) (by kernel_rfl) rfl (fun K' hK => ?_)
  go_simp
  refine (hbelow Wd hAd).mono ?_
  rintro e W2 ⟨rfl, hB2⟩
  have hU2 : Upd (fun _ => False) w W2 := hWd.below hB2 (fun k h1 h2 => by have := hWd.size; omega)
  have hS2 : (fun w' => w'.cell? ⟨bl, off + x, none⟩ = some (.int .i64 zx)) W2 := hU2.cell hcx (fun e => e)
  refine hK.out _ _ (fun _ => hS2) ?_
  clear hK K'
  try simp only [Act.put, List.setIfInBounds_toArray, List.set_cons_zero, List.set_cons_succ]
  refine anyT_one (i := 8) (by kernel_rfl) rfl (fun K' hK => ?_)
  go_simp
  refine hK.out _ _ (fun _ => hS2) ?_
  clear hK K'
  try simp only [Act.put, List.setIfInBounds_toArray, List.set_cons_zero, List.set_cons_succ]
  refine anyT_one (i := 9) (by kernel_rfl) rfl (fun K' hK => ?_)
  go_simp
  refine hK.out _ _ (fun h => absurd rfl h) ?_
  clear hK K'
  try simp only [Act.put, List.setIfInBounds_toArray, List.set_cons_zero, List.set_cons_succ]
  refine anyT_done (by kernel_rfl) ?_ _
  go_wp2
  go_ret
  exact ⟨rfl, hU2.toBelow (fun _ e => e.elim) (Nat.le_refl _)⟩

set_option maxHeartbeats 1000000 in
theorem ounrelated_any (A : Option Addr) (n c : Nat) (zs : List Int) (x : Nat) (hvo : VoP zs) (w : World) (hA : Ints w w.heap.size A n zs) (hx : x < n) :
    Calls Try.prog 182 #[.slice A n c, .int .i64 (x : Int)] w fun e W' => e = .returned (.int .i64 (unrI zs x)) ∧ Below w.heap.size w W' := by
  have hlen := Lib.hid hA.len
  have hn6 : n ≤ 6 := by have := hvo.1; rw [hlen.out] at this; exact this
  have hpn := powI_le6 (n := (n : Int)) (by omega)
  have hpp := powI_pos (n : Int)
  have hr := relI_bd hvo (x := x) (by rw [hlen.out]; exact hx)
  rw [hlen.out] at hr
  have hle : bits .andNot .i64 (powI n - 1) (relI zs x) = unrI zs x := (bits_less (by omega) (by omega) (by omega) (by omega)).trans (by unfold unrI; rw [hlen.out])
  have H1 := Lib.hid (fun w => oall_any A n c w hn6)
  have H2 := Lib.hid (fun w hA => orelated_any A n c zs x hvo w hA hx)
  generalize relI zs x = r at *
  generalize unrI zs x = u at *
  generalize powI (n : Int) - 1 = pn at *
  go_enter Try.func182, Try.ntmps182
  go_wp2_with (first
    | (go_at_call 120; refine (H1.out _).mono ?_; rintro e w' ⟨rfl, rfl⟩)
    | (go_at_call 157; refine (H2.out _ hA).mono ?_; rintro e w' ⟨rfl, hB⟩))
  go_ret
  exact ⟨rfl, hB⟩

end Go.Proofs.Ytghogabmkbadjab

/- The pairs of items apart: the program's: a list gone through backwards, and a row of structs that grows. -/
namespace Go.Proofs.Ytghogabmkbadjab
open Go.RowKit Go.Shelf
attribute [local go_sem] Oper.semAt_some
attribute [local go_sem, local simp] wide_fn

theorem infoEnds : (Try.prog.info? 127).map (fun i => (i.zero, i.size, i.bytes)) = some (some (.agg #[.int .i64 0, .int .i64 0]), 2, 16) := by kernel_rfl
theorem infoEnds_parts : ∃ i : TypeInfo, Try.prog.info? 127 = some i ∧ i.zero = some (.agg #[.int .i64 0, .int .i64 0]) ∧ i.size = 2 ∧ i.bytes = 16 := by
  have h := infoEnds
  cases hi : Try.prog.info? 127 with
  | none => rw [hi] at h; cases h
  | some i =>
    rw [hi] at h
    simp only [Option.map_some, Option.some.injEq, Prod.mk.injEq] at h
    exact ⟨i, rfl, h.1, h.2.1, h.2.2⟩

section
variable {P : Program} (w : World)
theorem wpListIn_append2 {F : Fence} {m : Nat} {ops : Array Oper} {rest : List Oper} {o : Oper} {a : Act} {Q : Exit → Act → World → Prop} (hgd : o.guard = none) (s x : Operand) (t : TypeId)
    (ho : o.op = .call { callee := .builtin .append, args := #[s, x], argTypes := #[t, t] })
    (base : Nat) (e : TypeId) (i : TypeInfo) (z : Value) (bytes : Nat) (ht : P.underlying t = some (.slice e)) (hi : P.info? e = some i) (hz : i.zero = some z)
    (hsize : i.size = 2) (hby : i.bytes = bytes) (hzs : z.cells.size = 2)
    (v : Value) (n : Nat) (xs : List Value) (hs : a.eval s = v) (hown : w.ownsRow base e 2 v n xs)
    (b c : Nat) (u1 u2 : Value) (hx : a.eval x = .slice (some ⟨b, 0, none⟩) 1 c) (hu1 : w.cell? ⟨b, 0, none⟩ = some u1) (hu2 : w.cell? ⟨b, 1, none⟩ = some u2) (h1 : u1.oneCell' = true) (h2 : u2.oneCell' = true)
    (h63 : n + 1 ≤ 1152921504606846976) (hbytes : (n + 1) * bytes ≤ 140737488355328) (hbase : base ≤ w.heap.size)
    (h : ∀ v' w', w'.ownsRow base e 2 v' (n + 1) (xs ++ [u1, u2]) → w.grownBy w' v.ownBlock → (v'.ownBlock = v.ownBlock ∨ v'.ownBlock = some w.heap.size) → wpListIn F m P ops Q rest (a.put o.dst v') w') : wpListIn F m P ops Q (o :: rest) a w := by
  obtain ⟨v', w', hrun, hA, h3, _, h5⟩ := run_append_own_at (P := P) w base t o.type e i z 2 bytes ht hi hz hsize hby hzs (by omega) v n xs hown ⟨b, 0, none⟩ 1 c [u1, u2] (by simp) (fun j u' hj => by
    match j with
    | 0 => simp at hj; subst hj; simpa [Addr.add] using hu1
    | 1 => simp at hj; subst hj; simpa [Addr.add] using hu2
    | j + 2 => simp at hj) (fun u' hu' => by
      rcases List.mem_cons.1 hu' with e | e
      · rw [e]; exact h1
      · rw [List.mem_singleton.1 e]; exact h2) (by simp only [maxLen]; omega) hbytes hbase
  refine wpListIn_plain hgd fun K hK => ?_
  unfold Oper.wpIn
  refine ⟨?_, ?_⟩
  · simp [Oper.about, ho, resolve, Target.leads, Sem.run_pure]
  · rw [Oper.semAt_plain F _ _ (by rw [ho]; intro c hc'; cases hc')]
    simp [execOp, ho, resolve, invoke, builtin, hs, hx, hrun, Result.andThen]
    exact hK _ _ (h v' w' hA h3 h5)
end

/-- Pairs, laid one behind the other. -/
def flP (ps : List (Nat × Nat)) : List Value := ps.flatMap fun p => [.int .i64 (p.1 : Int), .int .i64 (p.2 : Int)]
theorem flP_snoc (ps : List (Nat × Nat)) (p : Nat × Nat) : flP (ps ++ [p]) = flP ps ++ [.int .i64 (p.1 : Int), .int .i64 (p.2 : Int)] := by simp [flP]
theorem flP_at : ∀ (ps : List (Nat × Nat)) {k : Nat}, k < ps.length → (flP ps)[k * 2]? = some (.int .i64 ((ps[k]?.getD (0, 0)).1 : Int)) ∧ (flP ps)[k * 2 + 1]? = some (.int .i64 ((ps[k]?.getD (0, 0)).2 : Int))
  | [], k, h => by simp at h
  | p :: ps, 0, _ => by simp [flP]
  | p :: ps, k + 1, h => by
    have ih := flP_at ps (k := k) (by simpa using h)
    have e : flP (p :: ps) = .int .i64 (p.1 : Int) :: .int .i64 (p.2 : Int) :: flP ps := by simp [flP]
    rw [e, show (k + 1) * 2 = k * 2 + 1 + 1 by omega]
    simpa using ih
/-- A row of pairs under way, in a block that S names. -/
def PrOwn (S : Nat → Prop) (w : World) (B : Nat) (v : Value) (ps : List (Nat × Nat)) : Prop := (∀ k, v.ownBlock = some k → S k) ∧ w.ownsRow B 127 2 v ps.length (flP ps)
section
variable {S R : Nat → Prop} {w w' : World} {B : Nat} {v : Value} {ps : List (Nat × Nat)}
theorem PrOwn.keep (h : PrOwn S w B v ps) (hu : Upd R w w') (hS : ∀ k, S k → ¬ R k) : PrOwn S w' B v ps := by
  obtain ⟨h0, h1⟩ := h
  refine ⟨h0, h1.1, ?_⟩
  rcases h1.2 with e | ⟨g, cap, cur, rfl, hg, hc, hrest⟩
  · exact .inl e
  · exact .inr ⟨g, cap, cur, rfl, hg, (hu.block g (Array.getElem?_eq_some_iff.1 hc).1 (hS g (h0 g rfl))).trans hc, hrest⟩
theorem PrOwn.none (S : Nat → Prop) (w : World) (B : Nat) : PrOwn S w B (.slice none 0 0) [] := ⟨fun k hk => by simp [Value.ownBlock] at hk, rfl, .inl ⟨rfl, rfl⟩⟩
theorem own_ltP {base n s : Nat} {e : TypeId} {ys : List Value} (h : w.ownsRow base e s v n ys) : ∀ g, v.ownBlock = some g → g < w.heap.size := fun g hg => by
  rcases h.2 with ⟨rfl, _⟩ | ⟨g', cap, cur, rfl, _, hc, _⟩
  · simp [Value.ownBlock] at hg
  · simp [Value.ownBlock] at hg; subst hg; exact (Array.getElem?_eq_some_iff.1 hc).1
theorem PrOwn.step {S' : Nat → Prop} {p : Nat × Nat} {o : Obj} {v' : Value} (h : PrOwn S w B v ps) (hown : w'.ownsRow B 127 2 v' (ps.length + 1) (flP ps ++ [.int .i64 (p.1 : Int), .int .i64 (p.2 : Int)])) (hv : v'.ownBlock = v.ownBlock ∨ v'.ownBlock = some (w.alloc o).heap.size)
    (hS : ∀ k, S k → S' k) (hS1 : w.heap.size + 1 < w'.heap.size → S' (w.heap.size + 1)) : PrOwn S' w' B v' (ps ++ [p]) :=
  ⟨fun k hk => by
    rcases hv with e | e
    · exact hS k (h.1 k (e ▸ hk))
    · have hlt := own_ltP hown k hk
      rw [e] at hk; simp at hk; subst hk; exact hS1 hlt, by rw [List.length_append, flP_snoc]; exact hown⟩
end

/-! A list gone through backwards. -/
abbrev encB (zs : List Int) (x : Nat) : Array Value := #[.int .i64 (x : Int), .int .i64 (zs[x]?.getD 0)]
theorem backward_any (A : Option Addr) (n c : Nat) (w : World) :
    Calls Try.prog 181 #[.slice A n c] w fun e w' => e = .returned (.func (.func 193) #[] #[.pointer (some ⟨w.heap.size, 0, none⟩)]) ∧ w' = w.alloc (.cells #[.slice A n c] 49) := by
  go_enter Try.func181, Try.ntmps181
  go_wp2
  go_ret
  exact ⟨rfl, rfl⟩
theorem rev_take (n k : Nat) (hk : k < n) : (List.range n).reverse.take k ++ [n - 1 - k] = (List.range n).reverse.take (k + 1) := by
  have hl : k < (List.range n).reverse.length := by simpa using hk
  rw [List.take_succ_eq_append_getElem hl]
  congr 1
  simp

set_option maxRecDepth 100000 in
set_option maxHeartbeats 2000000 in
theorem backward_iter (A : Option Addr) (n c : Nat) (zs : List Int) (b : Nat) (M : Nat → Prop) (w : World) (hb : Boxed w b 49 (.slice A n c)) (hM : ¬ M b) (hn : n ≤ 6)
    (hA : Ints w w.heap.size A n zs) (hMA : 0 < n → ∀ a, A = some a → ¬ M a.block) :
    Iter Try.prog 193 #[.pointer (some ⟨b, 0, none⟩)] (encB zs) (List.range n).reverse M w := fun l J Jx hJ hJx hY h0 => by
  refine (callsIn_wide (n := 9)).1 ?_
  refine callsIn_of_wp Try.func193 rfl trivial ?_ rfl
  simp only [Try.ntmps193, List.size_toArray, List.length_cons, List.length_nil, Nat.reduceAdd, Nat.reduceSub, Array.replicate_succ, Array.replicate_zero, List.push_toArray, List.append_toArray, List.nil_append, List.cons_append]
  have hc0 := hb.cell
  have hw1 : IntKind.i64.wrap ((n : Int) - 1) = (n : Int) - 1 := by rw [IntKind.wrap_i64]; omega
  gi_wp2
  clear hc0
  gi_loopw [3] (fun i wr => ∃ (k : Nat) (D : Nat → Prop), k ≤ n ∧ i = .int .i64 ((n : Int) - 1 - k) ∧ J ((List.range n).reverse.take k) D wr ∧ Upd M w wr ∧ (∀ j, D j → w.heap.size ≤ j)) (fun i _ => (intOf i + 1).toNat)
  case atStart => exact ⟨0, fun _ => False, by omega, by simp, by simpa using h0, Upd.refl _ _, fun _ e => e.elim⟩
  case round =>
    obtain ⟨k, D, hk, rfl, hj, hU, hD⟩ := hrel
    rename World => wr
    have hlb := hb.lt
    have hbr := hU.boxed hb hM
    have hcb := hbr.cell
    by_cases hlt : k < n
    · obtain ⟨ab, off, rfl, hab, hc⟩ := hA.at_ (k := n - 1 - k) (by omega)
      have hck := hU.cell (hc (n - 1 - k) (by omega)) (hMA (by omega) ⟨ab, off, none⟩ rfl)
      have Ht := Lib.hid (rev_take n k hlt)
      have hpre : (List.range n).reverse.take k ++ [n - 1 - k] <+: (List.range n).reverse := by rw [Ht.out]; exact List.take_prefix _ _
      have hsz := hU.size
      obtain ⟨fn, tmps, assign, body, hy, hR⟩ := hY _ (n - 1 - k) D wr hj hsz hpre 8
      have hxe : (n : Int) - 1 - k = ((n - 1 - k : Nat) : Int) := by omega
      rw [hxe]
      have Hx := Lib.hid (show n - 1 - k < n by omega)
      have Hxe := Lib.hid hxe
      clear hxe hc
      generalize hx : n - 1 - k = x at *
      have Hxx := Lib.hid hx
      clear hx
      have hxn := Hx.out
      have hge : decide ((x : Int) ≥ 0) = true := by simp
      have hw2 : IntKind.i64.wrap ((x : Int) - 1) = (x : Int) - 1 := by rw [IntKind.wrap_i64]; omega
      gi_wp2
      refine hR.mono ?_
      rintro e W3 (⟨rfl, D', hJ3, hU3, hD'⟩ | ⟨rfl, D', hJ3, hU3, hD'⟩)
      · have hz3 := hU3.size
        have hU4 : Upd M w W3 := hU.trans' hU3 (fun i hi e => e.elim id (fun e => absurd (hD i e) (by omega)))
        gi_wp2
        go_roundw
        case rel => exact ⟨k + 1, D', by omega, by have := Hxx.out; congr 1; omega, by rw [← Ht.out]; exact hJ3, hU4, fun j hj => (hD' j hj).elim (hD j) (fun h => by omega)⟩
        case measure => simp [intOf]
      · gi_wp2
        refine bodyPost_ret (results_none rfl _ _ _) rfl ?_
        exact ⟨⟨_, rfl⟩, .inr ⟨_, D', hpre, hJ3⟩⟩
    · obtain rfl : k = n := by omega
      have hge : decide ((k : Int) - 1 - (k : Int) ≥ 0) = false := decide_eq_false (by omega)
      gi_wp2
      go_end0
      exact ⟨⟨_, rfl⟩, .inl ⟨D, by rw [List.take_of_length_le (by simp)] at hj; exact hj⟩⟩
end Go.Proofs.Ytghogabmkbadjab

/- The pairs of items apart: the program's whole. -/
namespace Go.Proofs.Ytghogabmkbadjab
open Go.RowKit Go.Shelf
attribute [local go_sem] Oper.semAt_some
attribute [local go_sem, local simp] wide_fn

/-- The pairs of one item, with those of the list. -/
def prX (x : Nat) (l : List Nat) : List (Nat × Nat) := (l.filter fun b => decide (x < b)).map fun b => (x, b)
def prF (zs : List Int) (pre : List Nat) : List (Nat × Nat) := pre.flatMap fun a => prX a (itemsL (unrI zs a))
theorem prF_snoc (zs : List Int) (pre : List Nat) (x : Nat) : prF zs (pre ++ [x]) = prF zs pre ++ prX x (itemsL (unrI zs x)) := by simp [prF]
theorem prX_yes {x y : Nat} (l : List Nat) (h : x < y) : prX x (l ++ [y]) = prX x l ++ [(x, y)] := by simp [prX, h]
theorem prX_no {x y : Nat} (l : List Nat) (h : ¬ x < y) : prX x (l ++ [y]) = prX x l := by simp [prX, h]
theorem prF_all (zs : List Int) : prF zs (List.range zs.length).reverse = prA zs := rfl
theorem prX_len (x : Nat) (l : List Nat) : (prX x l).length ≤ l.length := by
  unfold prX; rw [List.length_map]; exact List.length_filter_le _ _
theorem items_len6 (s : Int) : (itemsL s).length ≤ 6 := by
  have : (itemsL s).length ≤ (List.range 6).length := List.length_filter_le _ _
  simpa using this
theorem prF_len (zs : List Int) : ∀ pre : List Nat, (prF zs pre).length ≤ pre.length * 6
  | [] => by simp [prF]
  | a :: pre => by
    have ih := prF_len zs pre
    have h1 := prX_len a (itemsL (unrI zs a))
    have h2 := items_len6 (unrI zs a)
    have e : prF zs (a :: pre) = prX a (itemsL (unrI zs a)) ++ prF zs pre := by simp [prF]
    rw [e, List.length_append, List.length_cons]
    omega

set_option maxRecDepth 100000 in
set_option maxHeartbeats 8000000 in
theorem pairsApart_any (A : Option Addr) (n c : Nat) (zs : List Int) (hvo : VoP zs) (w : World) (hA : Ints w w.heap.size A n zs) :
    Calls Try.prog 155 #[.slice A n c] w fun e W' => ∃ v, e = .returned v ∧ PrOwn (fun k => w.heap.size ≤ k) W' w.heap.size v (prA zs) ∧ Below w.heap.size w W' := by
  have hlen := Lib.hid hA.len
  have hn6 : n ≤ 6 := by have := hvo.1; rw [hlen.out] at this; exact this
  obtain ⟨i0, hi0, hz0, hz1, hz2⟩ := infoEnds_parts
  have Hall := Lib.hid (show prF zs (List.range n).reverse = prA zs by rw [← hlen.out]; exact prF_all zs)
  refine (callsIn_wide (n := 9)).1 ?_
  refine callsIn_of_wp_marks Try.func155 rfl trivial ?_ rfl
  simp only [Try.ntmps155, List.size_toArray, List.length_cons, List.length_nil, Nat.reduceAdd, Nat.reduceSub, Array.replicate_succ, Array.replicate_zero, List.push_toArray, List.append_toArray, List.nil_append, List.cons_append]
  gi_wp2_with (gi_at_call 181; refine (callsIn_wide.2 (backward_any _ _ _ _)).mono ?_; rintro e w' ⟨rfl, rfl⟩)
  have bO := ((Boxed.new w 49 (.slice A n c)).alloc (.cells #[Value.slice none 0 0] 124)).alloc (.cells #[Value.slice A n c] 49)
  have bV := (Boxed.new (w.alloc (.cells #[Value.slice A n c] 49)) 124 (.slice none 0 0)).alloc (.cells #[Value.slice A n c] 49)
  have bE := Boxed.new ((w.alloc (.cells #[Value.slice A n c] 49)).alloc (.cells #[Value.slice none 0 0] 124)) 49 (.slice A n c)
  have hu0 : Upd (fun _ => False) w (((w.alloc (.cells #[Value.slice A n c] 49)).alloc (.cells #[Value.slice none 0 0] 124)).alloc (.cells #[Value.slice A n c] 49)) := (((Upd.refl _ w).alloc _).alloc _).alloc _
  have hzz : (((w.alloc (.cells #[Value.slice A n c] 49)).alloc (.cells #[Value.slice none 0 0] 124)).alloc (.cells #[Value.slice A n c] 49)).heap.size = w.heap.size + 3 := by simp
  simp only [World.size_alloc] at bV bE
  obtain ⟨W0, hW0⟩ : ∃ W0, (((w.alloc (.cells #[Value.slice A n c] 49)).alloc (.cells #[Value.slice none 0 0] 124)).alloc (.cells #[Value.slice A n c] 49)) = W0 := ⟨_, rfl⟩
  rw [hW0] at bO bV bE hu0 hzz ⊢
  clear hW0
  have hA0 : Ints W0 w.heap.size A n zs := hA.below (hu0.toBelow (fun _ e => e.elim) (Nat.le_refl _))
  refine range_out (n := 9) (gf := 193) (lb := #[.pointer (some ⟨w.heap.size + 1 + 1, 0, none⟩)]) rfl (enters_of Try.func193 (by kernel_rfl) rfl) (encs := encB zs) (L := (List.range n).reverse)
    (fun k => k = w.heap.size + 1) (fun k e => by omega) (fun _ => rfl)
    (fun W1 l1 hu1 hl1 hl2 => backward_iter A n c zs _ _ W1 (hu1.boxed bE (fun e => e)) (fun e => by omega) hn6 ((hA0.below (hu1.toBelow (fun _ e => e.elim) (by omega))).more (by have := hu1.size; omega)) (fun hn a ha e => by
      obtain ⟨b', off', e2, hb', _⟩ := hA0.at_ (k := 0) hn
      rw [ha] at e2; cases e2
      simp only at e; omega))
    (fun pre D W => ∃ v, Boxed W (w.heap.size + 1) 124 v ∧ PrOwn D W w.heap.size v (prF zs pre) ∧ Upd (fun k => k = w.heap.size + 1) W0 W)
    (fun _ _ _ _ => False)
    (fun _ D X Y hs hu => by
      obtain ⟨v, h1, h2, h3⟩ := hs
      exact ⟨v, hu.boxed h1 (fun e => by omega), h2.keep hu (fun k hk e => e.2 hk), h3.trans' hu (fun i hi e => by omega)⟩)
    (fun _ _ _ _ _ hs _ => hs)
    ⟨_, bV, PrOwn.none _ _ _, Upd.refl _ _⟩ ?owes ?done ?stop
  case owes =>
    rintro l1 pre x D1 W hl1 hl2 hDl hD1 - hpre K hK
    have hxn : x < n := by
      have := hpre.subset (by simp : x ∈ pre ++ [x])
      simpa using this
    gi_wp2
    refine hK _ _ ((Upd.refl _ _).alloc _) ?_
    rintro Wb hWb hloop ⟨v, bV1, hO, hU⟩
    clear hK
    have hWs : (W.alloc (.cells #[Value.int .i64 (x : Int)] 3)).heap.size = W.heap.size + 1 := by simp
    have bI : Boxed Wb W.heap.size 3 (.int .i64 (x : Int)) := hWb.boxed (Boxed.new W _ _) (fun e => by omega)
    have hcI := bI.cell
    have hcO := (hU.boxed bO (by omega)).cell
    have hsb := hU.size
    have hszb := hWb.size
    rw [hWs] at hszb
    have hAb : Ints Wb w.heap.size A n zs := hA0.below (hU.toBelow (fun k e => by omega) (by omega))
    have hub := unrI_bd zs x
    have hp64 := powI_le6 (n := (zs.length : Int)) (by rw [hlen.out]; omega)
    have Hcall := Lib.hid (ounrelated_any A n c zs x hvo Wb (hAb.more (by omega)) hxn)
    have HF := Lib.hid (prF_snoc zs pre x)
    have Hpl := Lib.hid (show (prF zs pre).length ≤ 36 by
      have h1 := prF_len zs pre
      have h2 := hpre.length_le
      simp at h2
      omega)
    generalize unrI zs x = u at *
    gi_wp2_with fail
    refine (CallsIn.inRound l1 (callsIn_wide.2 Hcall.out)).mono ?_
    rintro e W2 ⟨rfl, hB2⟩
    have z2 := hB2.size
    gi_wp2_with (gi_at_call 143; refine (CallsIn.inRound l1 (callsIn_wide.2 (each_any _ _))).mono ?_; rintro e w' ⟨rfl, rfl⟩)
    have bE2 := Boxed.new W2 76 (.int .i64 u)
    have huc : Upd (fun k => Wb.heap.size ≤ k) Wb (W2.alloc (.cells #[Value.int .i64 u] 76)) := (Below.toUpd hB2).alloc _
    have hzc : (W2.alloc (.cells #[Value.int .i64 u] 76)).heap.size = W2.heap.size + 1 := by simp
    obtain ⟨Wc, hWc⟩ : ∃ Wc, W2.alloc (.cells #[Value.int .i64 u] 76) = Wc := ⟨_, rfl⟩
    rw [hWc] at bE2 huc hzc ⊢
    clear hWc
    have bVc := huc.boxed bV1 (fun e => by have := bV1.lt; omega)
    have bIc := huc.boxed bI (fun e => by have := bI.lt; omega)
    have hOc : PrOwn (fun k => D1 k ∨ False) Wc w.heap.size v (prF zs pre ++ prX x []) := by
      have h1 := hO.keep huc (fun k hk e => by have := hD1 k hk; omega)
      rw [show prF zs pre ++ prX x [] = prF zs pre by simp [prX]]
      exact ⟨fun k hk => .inl (h1.1 k hk), h1.2⟩
    obtain ⟨r1, hr1⟩ := hloop
    have hl1b : l1 < Wb.heap.size := (Array.getElem?_eq_some_iff.1 hr1).1
    refine range_in (l₀ := l1) ⟨r1, (huc.block l1 hl1b (fun e => by omega)).trans hr1⟩ (gf := 177) (lb := #[.pointer (some ⟨W2.heap.size, 0, none⟩)]) rfl (enters_of Try.func177 (by kernel_rfl) rfl) (encs := encI) (L := itemsL u)
      (fun k => k = w.heap.size + 1 ∨ D1 k) (fun k e => by rcases e with e | e; · omega
                                                           · have := hD1 k e; omega) (fun _ => rfl)
      (fun W1 l2 hu1 hl3 hl4 => each_iter u hub.1 (by omega) _ _ W1 (hu1.boxed bE2 (fun e => e)) (fun e => by
        rcases e with (e | e) | e
        · omega
        · have := hD1 _ e; omega
        · omega))
      (fun pre2 D2 W' => ∃ v, Boxed W' (w.heap.size + 1) 124 v ∧ PrOwn (fun k => D1 k ∨ D2 k) W' w.heap.size v (prF zs pre ++ prX x pre2) ∧ Upd (fun k => k = w.heap.size + 1 ∨ D1 k) Wc W')
      (fun _ _ _ _ => False)
      (fun _ D X Y hs hu => by
        obtain ⟨v, h1, h2, h3⟩ := hs
        exact ⟨v, hu.boxed h1 (fun e => by omega), h2.keep hu (fun k hk e => by rcases hk with hk | hk; · have := hD1 k hk; omega
                                                                                · exact e.2 hk), h3.trans' hu (fun i hi e => by omega)⟩)
      (fun _ _ _ _ _ hs _ => hs)
      ⟨_, bVc, hOc, Upd.refl _ _⟩ ?owes2 ?done2 ?stop2
    case owes2 =>
      rintro l2 pre2 y D2 Wi hl3 hl4 hDl2 hD2 - hpre2 K hK
      gi_wp2
      refine hK _ _ (Upd.refl _ _) ?_
      rintro Wj hWj - ⟨v2, bV2, hO2, hU2⟩
      clear hK
      have hcI2 := (hU2.boxed bIc (fun e => by
        rcases e with e | e
        · omega
        · have := hD1 _ e; omega)).cell
      have z3 := hU2.size
      have z4 := hWj.size
      have hl2len : pre2.length ≤ 6 := by
        have h1 := hpre2.length_le
        have h2 := items_len6 u
        simp at h1
        omega
      by_cases hxy : x < y
      · have hgt : decide ((y : Int) > (x : Int)) = true := decide_eq_true (by omega)
        have Hst := Lib.hid (prX_yes pre2 hxy)
        have hcV2 := bV2.cell
        have hfV2 := bV2.frozen
        have hpl := Hpl.out
        have hxl := prX_len x pre2
        have hll : (prF zs pre ++ prX x pre2).length ≤ 42 := by rw [List.length_append]; omega
        obtain ⟨hS2, hown⟩ := hO2
        generalize hps : prF zs pre ++ prX x pre2 = ps at *
        have Hps := Lib.hid hps
        clear hps
        have hvb : some (w.heap.size + 1) ≠ v2.ownBlock := by
          intro e
          rcases hS2 _ e.symm with h9 | h9
          · have := hD1 _ h9; omega
          · have := hD2 _ h9; omega
        have hbk := heap_alloc_new Wj (.cells #[Value.int .i64 (x : Int), .int .i64 (y : Int)] 127)
        have hk0 : (Wj.alloc (.cells #[Value.int .i64 (x : Int), .int .i64 (y : Int)] 127)).cell? ⟨Wj.heap.size, 0, none⟩ = some (.int .i64 (x : Int)) := by rw [cell_of_row _ _ 0 _ _ (0, 0) hbk]; rfl
        have hk1 : (Wj.alloc (.cells #[Value.int .i64 (x : Int), .int .i64 (y : Int)] 127)).cell? ⟨Wj.heap.size, 1, none⟩ = some (.int .i64 (y : Int)) := by rw [cell_of_row _ _ 1 _ _ (0, 0) hbk]; rfl
        gi_wp2_with (gi_at_builtin; go_loud (refine wpListIn_append2 _ rfl (.tmp 18) (.tmp 22) _ rfl w.heap.size 127 i0 _ 16 Try.underlying124 hi0 hz0 hz1 hz2 rfl _ ps.length _ rfl (hown.alloc _) Wj.heap.size 1 (.int .i64 (x : Int)) (.int .i64 (y : Int)) rfl hk0 hk1 rfl rfl (by omega) (by omega) (by simp; omega) ?_); rintro v' w' hown' hg' hv'; obtain ⟨g', cap', rfl⟩ := ownsRow_succ hown'; have bV3 := (bV2.alloc _).kept hg' hvb; have hcV3 := bV3.cell; have hfV3 := bV3.frozen)
        rename_i w'
        have zg := hg'.size
        simp at zg
        have hst := PrOwn.step (S' := fun k => D1 k ∨ (D2 k ∨ Wi.heap.size ≤ k ∧ k < w'.heap.size)) (p := (x, y)) ⟨hS2, hown⟩ hown' hv' (fun k hk => hk.elim .inl (fun h => .inr (.inl h))) (fun h9 => .inr (.inr ⟨by omega, h9⟩))
        have hus : Upd (fun k => k = w.heap.size + 1) w' (w'.setCell ⟨w.heap.size + 1, 0, none⟩ (.slice (some ⟨g', 0, none⟩) (ps.length + 1) cap')) := (Upd.refl (fun k => k = w.heap.size + 1) w').setCell (p := ⟨w.heap.size + 1, 0, none⟩) (.inr rfl) _
        have hst2 := hst.keep hus (fun k hk e => by
          rcases hk with h9 | h9 | h9
          · have := hD1 _ h9; omega
          · have := hD2 _ h9; omega
          · omega)
        exact ⟨fun k => D2 k ∨ Wi.heap.size ≤ k ∧ k < w'.heap.size, ⟨_, bV3.set _, by rw [Hst.out, ← List.append_assoc, Hps.out]; exact hst2,
            ((hU2.alloc _).grown hg' (fun k hk => by
              rcases hS2 _ hk with h9 | h9
              · exact .inr (.inr h9)
              · exact .inl (by have := hD2 _ h9; omega))).setCell (p := ⟨w.heap.size + 1, 0, none⟩) (.inr (.inl rfl)) _⟩,
          (((Upd.refl (fun k => (k = w.heap.size + 1 ∨ D1 k) ∨ D2 k ∨ Wi.heap.size ≤ k) Wj).alloc _).grown hg' (fun k hk => by
              rcases hS2 _ hk with h9 | h9
              · exact .inr (.inl (.inr h9))
              · exact .inr (.inr (.inl h9)))).setCell (p := ⟨w.heap.size + 1, 0, none⟩) (.inr (.inl (.inl rfl))) _, fun k hk => hk.elim .inl (fun h => .inr ⟨h.1, by simpa [World.setCell] using h.2⟩)⟩
      · have hgt : decide ((y : Int) > (x : Int)) = false := decide_eq_false (by omega)
        have Hst := Lib.hid (prX_no pre2 hxy)
        gi_wp2
        exact ⟨D2, ⟨v2, bV2, by rw [Hst.out]; exact hO2, hU2⟩, Upd.refl _ _, fun k hk => .inl hk⟩
    case done2 =>
      rintro D2 W3 ⟨v2, bV2, hO2, hU2⟩ hD2
      have hbc : Upd (fun k => k = w.heap.size + 1 ∨ D1 k ∨ W.heap.size ≤ k) Wb W3 := (huc.mono (S := fun k => k = w.heap.size + 1 ∨ D1 k ∨ W.heap.size ≤ k) (fun k hk e => .inr (.inr (by omega)))).trans' hU2 (fun i hi e => e.elim .inl (fun h => .inr (.inl h)))
      exact ⟨fun k => D1 k ∨ D2 k, ⟨v2, bV2, by rw [HF.out]; exact hO2, hU.trans' hbc (fun i hi e => by
        rcases e with e | e | e
        · exact e
        · have := hD1 _ e; omega
        · omega)⟩, hbc, fun k hk => hk.elim .inl (fun h => .inr (by have := hD2 k h; omega))⟩
    case stop2 =>
      rintro D2 co pre2 W3 hpre2 hF hD2
      exact hF.elim
  case done =>
    rintro d D1 W hd ⟨v, bV1, hO, hU⟩ hD1 hKd
    have hcV := bV1.cell
    have zd := hU.size
    gi_wp2
    refine leaves_marks [d] _ ⟨by simp, fun b hb => ?_⟩ (fun W' hu' => ?_)
    · rw [List.mem_singleton.1 hb]; exact hKd
    · have hO' := hO.keep hu' (fun k hk e => by simp at e; have := hD1 k hk; omega)
      rw [Hall.out] at hO'
      exact ⟨_, by simp [results, Try.f155, go_sem], v, rfl, ⟨fun k hk => by have := hD1 k (hO'.1 k hk); omega, hO'.2⟩, ((hu0.trans' hU (fun i hi e => by omega)).trans' hu' (fun i hi e => by simp at e; omega)).toBelow (R := fun _ => False) (fun _ e => e.elim) (Nat.le_refl _)⟩
  case stop =>
    rintro d D1 co pre W hd hpre hF
    exact hF.elim
end Go.Proofs.Ytghogabmkbadjab

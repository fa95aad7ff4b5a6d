/- Texts that several claims share, one behind the other. -/
import Derived.Test.YtcadmjpkgnbodaaGb
import Derived.Test.YtcadmjpkgnbodaaGa
import Derived.DeepKeys4
import Derived.Maps.OwnIn
import Derived.Deep.RegionLaw
import Derived.Deep.AppendLies
import Derived.Maps.AppendAt
import Derived.Test.YtcadmjpkgnbodaaRows
import Derived.ProofKit
import Derived.OpenShut
import Derived.JoinedOf
import Derived.JoinedAt
import Derived.ChangeSlices
import Derived.ChangeSame
import Derived.JoinedCond
/- Sums of values below, as both count them. No program. -/
namespace Go.Proofs.Ytcadmjpkgnbodaa

def valB (vs : List Int) : Bool := vs.all fun x => inB x (-1000) 1000
def valR (zs vs : List Int) : Bool := vo zs && (decide (vs.length = zs.length) && valB vs)
theorem valB_at {vs : List Int} (h : valB vs = true) (a : Nat) : -1000 ≤ vs[a]?.getD 0 ∧ vs[a]?.getD 0 ≤ 1000 := by
  cases e : vs[a]? with
  | none => simp
  | some x =>
    have := List.all_eq_true.1 h x (List.mem_of_getElem? e)
    simpa [inB] using this
theorem valB_no {vs : List Int} {k : Nat} (hk : k < vs.length) (h : inB (vs[k]?.getD 0) (-1000) 1000 = false) : valB vs = false := by
  cases e : valB vs
  · rfl
  · have := valB_at e k
    simp [inB] at h
    omega
theorem valB_all {vs : List Int} (h : ∀ k, k < vs.length → inB (vs[k]?.getD 0) (-1000) 1000 = true) : valB vs = true := List.all_eq_true.2 fun x hx => by
  obtain ⟨k, hk, rfl⟩ := List.getElem_of_mem hx
  have := h k hk
  rwa [List.getElem?_eq_getElem hk] at this
/-- As the model adds. -/
def sbTo (zs vs : List Int) (a k : Nat) : Int := vs[a]?.getD 0 + smTo (fun b => bitI ((du zs)[a]?.getD 0) b * vs[b]?.getD 0) k
theorem sbTo_succ (zs vs : List Int) (a k : Nat) : sbTo zs vs a (k + 1) = sbTo zs vs a k + bitI ((du zs)[a]?.getD 0) k * vs[k]?.getD 0 := by unfold sbTo; rw [smTo_succ]; omega
theorem sbTo_all {zs vs : List Int} (h : VoP zs) {a : Nat} (ha : a < zs.length) : sbTo zs vs a zs.length = sbI zs vs a := by
  unfold sbTo sbI
  rw [smTo_congr (g := fun b => if leB zs b a then vs[b]?.getD 0 else 0) (h := fun b => (if b = a then vs[a]?.getD 0 else 0) + bitI ((du zs)[a]?.getD 0) b * vs[b]?.getD 0) _ fun b _ => ?_]
  · rw [smTo_add, smTo_one (c := a) ha fun j _ hj => if_neg hj, if_pos rfl]
  · have hd : bitB ((du zs)[a]?.getD 0) b = upw zs b a := du_bit h.sets b a
    unfold bitI
    rw [hd]
    unfold leB
    by_cases hba : b = a
    · subst hba
      have : upw zs b b = false := by
        cases e : upw zs b b
        · rfl
        · exact absurd (upw_lt.1 e) h.irr
      simp [this]
    · simp only [show (b == a) = false from by simpa using hba, Bool.false_or, if_neg hba]
      cases upw zs b a <;> simp
theorem sbTo_bd {zs vs : List Int} (h : valB vs = true) (a : Nat) {k : Nat} (hk : k ≤ 6) : -7000 ≤ sbTo zs vs a k ∧ sbTo zs vs a k ≤ 7000 := by
  have h1 := valB_at h a
  have h2 := smTo_bd (g := fun b => bitI ((du zs)[a]?.getD 0) b * vs[b]?.getD 0) (B := 1000) (by omega) k fun c _ => by
    have h3 := valB_at h c
    unfold bitI
    skip
    split <;> omega
  unfold sbTo
  omega
/-- As the model undoes. -/
def usTo (zs vs : List Int) (a k : Nat) : Int := smTo (fun b => vs[b]?.getD 0 * muI zs b a) k
theorem mul_in {x y : Int} (h1 : -1000 ≤ x) (h2 : x ≤ 1000) (h3 : -279936 ≤ y) (h4 : y ≤ 279936) : -279936000 ≤ x * y ∧ x * y ≤ 279936000 := by
  have a := Int.natAbs_mul x y
  have b : x.natAbs * y.natAbs ≤ 1000 * 279936 := Nat.mul_le_mul (by omega) (by omega)
  omega
theorem usTo_bd {zs vs : List Int} (hn : zs.length ≤ 6) (h : valB vs = true) (a : Nat) {k : Nat} (hk : k ≤ 6) : -1679616000 ≤ usTo zs vs a k ∧ usTo zs vs a k ≤ 1679616000 := by
  have h2 := smTo_bd (g := fun b => vs[b]?.getD 0 * muI zs b a) (B := 279936000) (by omega) k fun c _ => by
    have h3 := valB_at h c
    have h4 := muI_bd hn c a
    exact mul_in h3.1 h3.2 h4.1 h4.2
  unfold usTo
  omega
theorem sums_len_le {zs vs : List Int} (h : VoP zs) : (sumsL zs vs).length ≤ 6 := by rw [sumsL_len]; exact h.1
/-- What SumsBelow and UndoSums answer. -/
def sumsR (zs vs : List Int) : List Int := if valR zs vs then sumsL zs vs else []
def undoR (zs vs : List Int) : List Int := if valR zs vs then undoL zs vs else []
theorem valR_parts {zs vs : List Int} (h : valR zs vs = true) : VoP zs ∧ vs.length = zs.length ∧ valB vs = true := by
  unfold valR at h
  rw [Bool.and_eq_true, Bool.and_eq_true, decide_eq_true_eq] at h
  exact ⟨by simpa [vo] using h.1, h.2⟩
theorem sumsR_le (zs vs : List Int) : (sumsR zs vs).length ≤ 1048576 := by
  unfold sumsR
  cases h : valR zs vs
  · simp
  · have := (valR_parts h).1.1
    simp only [if_true]
    rw [sumsL_len]; omega
theorem undoR_le (zs vs : List Int) : (undoR zs vs).length ≤ 1048576 := by
  unfold undoR
  cases h : valR zs vs
  · simp
  · have := (valR_parts h).1.1
    simp only [if_true]
    rw [undoL_len]; omega
/-- The first k of a list told by a function. -/
def firstL (g : Nat → Int) (k : Nat) : List Int := (List.range k).map g
theorem firstL_succ (g : Nat → Int) (k : Nat) : firstL g (k + 1) = firstL g k ++ [g k] := by simp [firstL, List.range_succ]
theorem firstL_len (g : Nat → Int) (k : Nat) : (firstL g k).length = k := by simp [firstL]
end Go.Proofs.Ytcadmjpkgnbodaa

/- Values: which lists of them are valid, by the program and the model. -/
namespace Go.Proofs.Ytcadmjpkgnbodaa
open Go.RowKit
attribute [local go_sem] Oper.semAt_some
attribute [local go_sem, local simp] wide_fn

/-- What 'readValued' hands back. -/
def ReadsV (zs vs : List Int) (n : Nat) (w : World) (e : Ending) (w' : World) : Prop :=
  Below w.heap.size w w' ∧ ((valR zs vs = true ∧ ∃ b, e = .returned (.tuple #[.slice (some ⟨b, 0, none⟩) n n, .bool true]) ∧ w.heap.size ≤ b ∧ Arr w' b 46 zs) ∨
    (valR zs vs = false ∧ e = .returned (.tuple #[.slice none 0 0, .bool false])))

end Go.Proofs.Ytcadmjpkgnbodaa

/- SumsBelow: the program's. -/
namespace Go.Proofs.Ytcadmjpkgnbodaa
open Go.RowKit Go.Shelf
attribute [local go_sem] Oper.semAt_some
attribute [local go_sem, local simp] wide_fn

theorem lsum_items (g : Nat → Int) (s : Int) : ∀ k : Nat, lsum g (itemsTo s k) = smTo (fun b => if bitB s (b : Int) then g b else 0) k
  | 0 => rfl
  | k + 1 => by
    cases h : bitB s (k : Int)
    · rw [itemsTo_no h, lsum_items g s k, smTo_succ, h]; simp
    · rw [itemsTo_yes h, lsum_snoc, lsum_items g s k, smTo_succ, h]; simp
theorem below_leB {zs : List Int} (h : VoP zs) {a : Nat} (ha : a < zs.length) (j : Nat) : bitB (belI zs (orI 0 (powI (a : Int)))) j = leB zs j a := by
  rw [Bool.eq_iff_iff, belI_bit h.sets (one_bd ha).2, one_bit]
  unfold leB upw
  simp only [Bool.or_eq_true, decide_eq_true_eq, beq_iff_eq]
  constructor
  · rintro (h1 | ⟨c, hc, h3⟩)
    · exact .inl h1.symm
    · rw [one_bit, decide_eq_true_iff] at hc
      subst hc
      exact .inr h3
  · rintro (h1 | h3)
    · exact .inl h1.symm
    · exact .inr ⟨a, by rw [one_bit]; simp, h3⟩
theorem lsum_below {zs vs : List Int} (h : VoP zs) {a : Nat} (ha : a < zs.length) : lsum (fun x => vs[x]?.getD 0) (itemsL (belI zs (orI 0 (powI (a : Int))))) = sbI zs vs a := by
  have hb := belI_bd h.sets (one_bd ha).1 (one_bd ha).2
  rw [← itemsTo_all hb.2 h.1, lsum_items]
  unfold sbI
  refine smTo_congr _ fun b _ => ?_
  rw [below_leB h ha]
theorem lsum_small {g : Nat → Int} {B : Int} (h0 : 0 ≤ B) (hg : ∀ x, -B ≤ g x ∧ g x ≤ B) : ∀ l : List Nat, -(B * l.length) ≤ lsum g l ∧ lsum g l ≤ B * l.length
  | [] => by simp [lsum]
  | x :: l => by
    have := lsum_small h0 hg l
    have h2 := hg x
    rw [lsum_cons, List.length_cons, show B * ((l.length + 1 : Nat) : Int) = B * l.length + B by rw [Int.natCast_add, Int.mul_add]; simp]
    omega
theorem pre_small {g : Nat → Int} {B s : Int} (h0 : 0 ≤ B) (hB : B ≤ 100000000000) (hg : ∀ x, -B ≤ g x ∧ g x ≤ B) (pre : List Nat) (hp : pre <+: itemsL s) : -1000000000000 ≤ lsum g pre ∧ lsum g pre ≤ 1000000000000 := by
  have h1 := lsum_small h0 hg pre
  have h2 := hp.length_le
  have h3 : (itemsL s).length ≤ 6 := by
    have := List.length_filter_le (fun j : Nat => bitB s (j : Int)) (List.range 6)
    rw [List.length_range] at this
    exact this
  have h4 : B * pre.length ≤ B * 6 := Int.mul_le_mul_of_nonneg_left (by omega) h0
  omega

end Go.Proofs.Ytcadmjpkgnbodaa

/- The number of two items: the model's, and its sum over chains. -/
namespace Go.Proofs.Ytcadmjpkgnbodaa
open Go.RowKit Go.Shelf
attribute [local go_sem] Oper.semAt_some
attribute [local go_sem, local simp] wide_fn

/-- The sum that the number of two items is less of, up to k. -/
def muS (zs : List Int) (a b k : Nat) : Int := smTo (fun c => if muC zs a b c then muI zs a c else 0) k
theorem muS_bd {zs : List Int} (h : VoP zs) (a b : Nat) {k : Nat} (hk : k ≤ 6) : -1679616 ≤ muS zs a b k ∧ muS zs a b k ≤ 1679616 := by
  have := smTo_bd (g := fun c => if muC zs a b c then muI zs a c else 0) (B := 279936) (by omega) k fun c _ => by
    have := muI_bd h.1 a c
    skip
    split <;> omega
  have e : (k : Int) * 279936 ≤ 1679616 := by omega
  unfold muS
  omega
theorem muS_yes {zs : List Int} {a b k : Nat} (h : muC zs a b k = true) : - muS zs a b (k + 1) = - muS zs a b k - muI zs a k := by
  unfold muS; rw [smTo_succ, h, if_pos rfl]; omega
theorem muS_no {zs : List Int} {a b k : Nat} (h : muC zs a b k = false) : muS zs a b (k + 1) = muS zs a b k := by
  unfold muS; rw [smTo_succ, h]; simp

/-- What SignOf answers. -/
def signR (zs : List Int) (a b : Int) : Int := if vo zs && (isIt zs a && isIt zs b) then muI zs a.toNat b.toNat else -1000
end Go.Proofs.Ytcadmjpkgnbodaa

/- The number of two items: the program's, with what it has found before in a map whose keys are structs. -/
namespace Go.Proofs.Ytcadmjpkgnbodaa
open Go.RowKit Go.Shelf
attribute [local go_sem] Oper.semAt_some
attribute [local go_sem, local simp] wide_fn

/-- Two items as a value. -/
def endV (a b : Nat) : Value := .agg #[.int .i64 (a : Int), .int .i64 (b : Int)]
/-- Two items as a key. -/
def ekey (a b : Nat) : Lit := .string (keyBytes [.int .i64 (a : Int), .int .i64 (b : Int)])
theorem ezero_int (w : World) : (zeroValue 3).run Try.prog w = .ok (.int .i64 0) w := by kernel_rfl

/-- How often the map is written at most. -/
def ecost : Nat → Nat
  | 0 => 0
  | f + 1 => 6 * ecost f + 1
theorem ecost_le : ∀ f : Fin 8, ecost f.val ≤ 55987 := by decide

/-- What tells the numbers: the order in block b, the map in block m. -/
def signV (b m n : Nat) : Value := .agg #[.slice (some ⟨b, 0, none⟩) n n, .map (some m)]

theorem btw_none {zs : List Int} (h : VoP zs) {a b : Nat} (ha : a < zs.length) (hb : b < zs.length) (hl : leB zs a b = false) : btw zs a b = 0 := by
  refine bitB_ext (btw_bd h ha).1 (by omega) fun j => ?_
  rw [btw_bit h hb, bitB_zero]
  cases h1 : leB zs a j
  · rfl
  · cases h2 : leB zs j b
    · rfl
    · exfalso
      have : leB zs a b = true := by
        simp only [leB, Bool.or_eq_true, beq_iff_eq, upw_lt] at h1 h2 ⊢
        rcases h1 with rfl | h1
        · exact h2
        · rcases h2 with rfl | h2
          · exact .inr h1
          · exact .inr (h.trans h1 h2)
      rw [hl] at this; cases this
theorem btw_some {zs : List Int} (h : VoP zs) {a b : Nat} (hb : b < zs.length) (hl : leB zs a b = true) : (btw zs a b == 0) = false := by
  rw [beq_eq_false_iff_ne]
  intro e
  have := btw_bit h (a := a) hb a
  rw [e, bitB_zero, hl, show leB zs a a = true by simp [leB]] at this
  cases this
theorem less_muC {zs : List Int} (h : VoP zs) {a b : Nat} (hl : lt zs a b) (x : Nat) : bitB (lessI (btw zs a b) (powI (b : Int))) x = muC zs a b x := by
  have hb := h.lt_n hl
  have irr : ∀ c, upw zs c c = false := fun c => by
    cases e : upw zs c c
    · rfl
    · exact absurd (upw_lt.1 e) h.irr
  have hab : a ≠ b := fun e => h.irr (e ▸ hl)
  rw [bitB_less, btw_bit h hb, bitB_pow]
  unfold muC leB
  by_cases hxa : x = a
  · subst hxa
    simp [upw_lt.2 hl, show b ≠ x from fun e => hab e.symm]
  · by_cases hxb : x = b
    · subst hxb
      simp [irr, hxa]
    · have e1 : (a == x) = false := by simpa using fun e => hxa e.symm
      have e2 : (x == b) = false := by simpa using hxb
      have e3 : (x == a) = false := by simpa using hxa
      have e4 : decide (b = x) = false := by simpa using fun e => hxb e.symm
      rw [e1, e2, e3, e4]; simp
theorem lsum_mu {zs : List Int} (h : VoP zs) {a b : Nat} (hl : lt zs a b) : lsum (fun x => muI zs a x) (itemsL (lessI (btw zs a b) (powI (b : Int)))) = - muI zs a b := by
  have hb := btw_bd h (b := b) hl.1
  have h1 := lessI_bd (btw zs a b) (powI (b : Int))
  rw [← itemsTo_all (n := zs.length) (by omega) h.1, lsum_items, muI_rec h hl, Int.neg_neg]
  refine smTo_congr _ fun x _ => ?_
  rw [less_muC h hl]

end Go.Proofs.Ytcadmjpkgnbodaa

/- SignOf, UndoSums: the program's. -/
namespace Go.Proofs.Ytcadmjpkgnbodaa
open Go.RowKit Go.Shelf
attribute [local go_sem] Oper.semAt_some
attribute [local go_sem, local simp] wide_fn

theorem pair_set {W : World} {g : Nat} {t : TypeId} {x y p q : Value} (h : W.heap[g]? = some (.cells #[x, y] t (0, 0))) : ((W.setCell ⟨g, 0, none⟩ p).setCell ⟨g, 1, none⟩ q).heap[g]? = some (.cells #[p, q] t (0, 0)) := by
  simp [World.setCell, Array.getElem?_modify, h]
theorem pair_upd {W : World} {g : Nat} {p q : Value} : Upd (fun k => k = g) W ((W.setCell ⟨g, 0, none⟩ p).setCell ⟨g, 1, none⟩ q) :=
  ((Upd.refl (fun k => k = g) W).setCell (p := ⟨g, 0, none⟩) (.inr rfl) _).setCell (p := ⟨g, 1, none⟩) (.inr rfl) _
theorem pair_cells {W : World} {g : Nat} {t : TypeId} {x y : Value} (h : W.heap[g]? = some (.cells #[x, y] t (0, 0))) : W.cell? ⟨g, 0, none⟩ = some x ∧ W.cell? ⟨g, 1, none⟩ = some y ∧ W.frozen? ⟨g, 0, none⟩ = false ∧ W.frozen? ⟨g, 1, none⟩ = false := by
  refine ⟨by rw [cell_of_row _ _ _ _ _ _ h]; rfl, by rw [cell_of_row _ _ _ _ _ _ h]; rfl, by simp [World.frozen?, h], by simp [World.frozen?, h]⟩
theorem results_tct {P : Program} {fn : Func} {o p q : Tmp} {ty : TypeId} (h : fn.results = #[.tmp o, .cell p ty, .tmp q]) (tmps : Array Value) (w : World) (g : Nat) (t : TypeId) (cs : Array Value) (fr : Nat × Nat) (d : TypeDesc) (u v : Value)
    (ho : tmps.getD o undef = u) (hp : tmps.getD p undef = .pointer (some ⟨g, 0, none⟩)) (hq : tmps.getD q undef = v) (hg : w.heap[g]? = some (.cells cs t fr))
    (hu : P.underlying ty = some d) (hd : (match d with | .struct _ | .array _ _ => true | _ => false) = true) (hi : (P.info? ty).map (·.size) = some cs.size) :
    (results fn tmps).run P w = .ok (.tuple #[u, .agg cs, v]) w := by
  have ho' : tmps[o]?.getD undef = u := by simpa using ho
  have hp' : tmps[p]?.getD undef = .pointer (some ⟨g, 0, none⟩) := by simpa using hp
  have hq' : tmps[q]?.getD undef = v := by simpa using hq
  simp [results, h, ho', hp', hq', asAddr, run_loadVar_row w g t ty cs fr d hg hu hd hi]

/-- Whether two numbers are items of the order. -/
def endsB (zs : List Int) (a b : Int) : Bool := vo zs && (isIt zs a && isIt zs b)
/-- What 'readEnds' hands back. -/
def ReadsE (zs : List Int) (a b : Int) (n : Nat) (w : World) (e : Ending) (w' : World) : Prop :=
  Below w.heap.size w w' ∧ ((endsB zs a b = true ∧ ∃ q, e = .returned (.tuple #[.slice (some ⟨q, 0, none⟩) n n, .agg #[.int .i64 a, .int .i64 b], .bool true]) ∧ w.heap.size ≤ q ∧ Arr w' q 46 zs) ∨
    (endsB zs a b = false ∧ e = .returned (.tuple #[.slice none 0 0, .agg #[.int .i64 0, .int .i64 0], .bool false])))

end Go.Proofs.Ytcadmjpkgnbodaa

/- sumOver: the sum over all that a function yields, of what another function tells (over sets). -/
namespace Go.Proofs.Ytcadmjpkgnbodaa
open Go.RowKit Go.Shelf
attribute [local go_sem] Oper.semAt_some
attribute [local go_sem, local simp] wide_fn


set_option maxRecDepth 100000 in
set_option maxHeartbeats 4000000 in
theorem sumOverS_any {gf vf : Nat} (lb vb : Array Value) (L : List Nat) (g : Nat → Int) (w : World) (M : Nat → Prop) (hM : ∀ k, M k → k < w.heap.size) (Inv : List Nat → World → Prop)
    (eg : ∀ args w, (callFunc gf args).run Try.prog w = .ok (.enter gf args) w)
    (ev : ∀ args w, (callFunc vf args).run Try.prog w = .ok (.enter vf args) w)
    (hsmall : ∀ pre, pre <+: L → -1000000000000 ≤ lsum g pre ∧ lsum g pre ≤ 1000000000000)
    (hI : ∀ (W1 : World) (M' : Nat → Prop), Upd (fun _ => False) w W1 → (∀ k, M' k → M k ∨ w.heap.size ≤ k) → (∀ k, M' k → k < W1.heap.size) → Iter Try.prog gf lb encS L M' W1)
    (hv : ∀ pre x W, pre ++ [x] <+: L → Inv pre W → Upd M w W → Calls Try.prog vf (#[.int .i64 (x : Int)] ++ vb) W fun e W' => e = .returned (.int .i64 (g x)) ∧ Inv (pre ++ [x]) W' ∧ Upd M W W')
    (hInv : ∀ pre X Y, Inv pre X → w.heap.size ≤ X.heap.size → Upd (fun k => w.heap.size ≤ k) X Y → Inv pre Y)
    (h0 : Inv [] w) :
    Calls Try.prog 126 #[.func (.func gf) #[] lb, .func (.func vf) #[] vb] w fun e W' => e = .returned (.int .i64 (lsum g L)) ∧ Inv L W' ∧ Upd M w W' := by
  refine (callsIn_wide (n := 9)).1 ?_
  refine callsIn_of_wp_marks Try.func126 rfl trivial ?_ rfl
  simp only [Try.ntmps126, List.size_toArray, List.length_cons, List.length_nil, Nat.reduceAdd, Nat.reduceSub, Array.replicate_succ, Array.replicate_zero, List.push_toArray, List.append_toArray, List.nil_append, List.cons_append]
  have bV0 := ((Boxed.new w 85 (.func (.func vf) #[] vb)).alloc (.cells #[Value.int .i64 0] 3))
  have bS0 := Boxed.new (w.alloc (.cells #[Value.func (.func vf) #[] vb] 85)) 3 (.int .i64 0)
  have hu0 : Upd (fun _ => False) w ((w.alloc (.cells #[Value.func (.func vf) #[] vb] 85)).alloc (.cells #[Value.int .i64 0] 3)) := ((Upd.refl _ w).alloc _).alloc _
  have hz0 : ((w.alloc (.cells #[Value.func (.func vf) #[] vb] 85)).alloc (.cells #[Value.int .i64 0] 3)).heap.size = w.heap.size + 2 := by simp
  simp only [World.size_alloc] at bV0 bS0
  gi_wp2_with fail
  obtain ⟨W0, hW0⟩ : ∃ W0, (w.alloc (.cells #[Value.func (.func vf) #[] vb] 85)).alloc (.cells #[Value.int .i64 0] 3) = W0 := ⟨_, rfl⟩
  rw [hW0] at bV0 bS0 hu0 hz0 ⊢
  clear hW0
  have hInv0 := hInv _ _ _ h0 (Nat.le_refl _) (hu0.mono fun _ _ e => e.elim)
  refine range_out (n := 9) (gf := gf) (lb := lb) rfl eg (encs := encS) (L := L)
    (fun k => M k ∨ k = w.heap.size + 1) (fun k e => e.elim (fun e => by have := hM k e; omega) (fun e => by omega)) (fun _ => rfl)
    (fun W1 l1 hu1 hl1 hl2 => hI W1 _ (hu0.trans' hu1 (fun i hi e => e)) (fun k e => e.elim (fun e => e.elim .inl (fun e => .inr (by omega))) (fun e => .inr (by omega))) (fun k e => by have := hu1.size; exact e.elim (fun e => e.elim (fun e => by have := hM k e; omega) (fun e => by omega)) (fun e => by omega)))
    (fun pre D W => Boxed W (w.heap.size + 1) 3 (.int .i64 (lsum g pre)) ∧ Inv pre W ∧ Upd (fun k => M k ∨ k = w.heap.size + 1) W0 W)
    (fun _ _ _ _ => False)
    (fun _ D X Y hs hu => by
      obtain ⟨h1, h2, h3⟩ := hs
      have := h3.size
      exact ⟨hu.boxed h1 (fun e => by omega), hInv _ _ _ h2 (by omega) (hu.mono fun k _ e => by omega), h3.trans' hu (fun i hi e => by omega)⟩)
    (fun _ _ _ _ _ hs _ => hs)
    ⟨bS0, hInv0, Upd.refl _ _⟩ ?owes ?done ?stop
  case owes =>
    rintro l1 pre x D1 W hl1 hl2 hDl hD1 - hpre K hK
    gi_wp2
    refine hK _ _ (Upd.refl _ _) ?_
    rintro Wb hWb - ⟨bS1, hi1, hU⟩
    clear hK
    have hszb := hWb.size
    have hsb := hU.size
    have bV1 := hU.boxed bV0 (fun e => e.elim (fun e => by have := hM _ e; omega) (fun e => by omega))
    have hUM : Upd M w Wb := (hu0.mono fun _ _ e => e.elim).trans' hU (fun i hi e => e.elim id (fun e => by omega))
    have hcall := hv pre x Wb hpre hi1 hUM
    have hb1 := hsmall pre ((List.prefix_append _ _).trans hpre)
    have hb2 := hsmall (pre ++ [x]) hpre
    rw [lsum_snoc] at hb2
    have hwr : IntKind.i64.wrap (lsum g pre + g x) = lsum g pre + g x := by rw [IntKind.wrap_i64]; omega
    have Hsn := Lib.hid (lsum_snoc g pre x)
    gi_wp2
    have bSd : Boxed Wb.drew (w.heap.size + 1) 3 (.int .i64 (lsum g pre)) := bS1
    have bVd : Boxed Wb.drew w.heap.size 85 (.func (.func vf) #[] vb) := bV1
    have hcalld := hv pre x Wb.drew hpre (hInv _ _ _ hi1 (by omega) ((Upd.refl _ Wb).drew)) (hUM.drew)
    have hWd : Upd (fun _ => False) Wb Wb.drew := (Upd.refl _ Wb).drew
    have hUd : Upd (fun k => M k ∨ k = w.heap.size + 1) W0 Wb.drew := hU.drew
    clear bS1 bV1 hcall
    refine region_T_round (S := (fun w' => w'.cell? ⟨w.heap.size + 1, 0, none⟩ = some (.int .i64 (lsum g pre)) ∧ w'.cell? ⟨w.heap.size, 0, none⟩ = some (.func (.func vf) #[] vb))) 5 (by kernel_rfl) (by kernel_rfl) (by rintro ⟨_, _, h⟩; exact h) ?_
    obtain ⟨Wd, hWd2⟩ : ∃ Wd, Wb.drew = Wd := ⟨_, rfl⟩
    rw [hWd2] at bSd bVd hcalld hWd hUd ⊢
    clear hWd2
    have hSd : (fun w' => w'.cell? ⟨w.heap.size + 1, 0, none⟩ = some (.int .i64 (lsum g pre)) ∧ w'.cell? ⟨w.heap.size, 0, none⟩ = some (.func (.func vf) #[] vb)) Wd := ⟨bSd.cell, bVd.cell⟩
    refine anyT_take (i := 0) (oi := ?oi0a) (v := .int .i64 (lsum g pre)) ?hi0a (by kernel_rfl) ?hq0a ?hy0a (by assumption) ?rest0a
    case hi0a => (simp only [List.getElem?_toArray, List.getElem?_cons_zero]; first | done | rfl)
    case hq0a => first | exact fun _ _ _ h => h | exact fun _ _ _ h => (by cases h.1)
    case hy0a => (refine Or.inl ⟨by rfl, ?_⟩; intro wz hSw; obtain ⟨hS1, hS2⟩ := hSw; go_simp; first | done | with_reducible rfl | simp | omega)
    try simp only [Act.put, List.setIfInBounds_toArray, List.set_cons_zero, List.set_cons_succ]
    refine anyT_take (i := 1) (oi := ?oi1a) (v := .func (.func vf) #[] vb) ?hi1a (by kernel_rfl) ?hq1a ?hy1a (by assumption) ?rest1a
    case hi1a => (simp only [List.getElem?_toArray, List.getElem?_cons_succ, List.getElem?_cons_zero]; first | done | rfl)
    case hq1a => first | exact fun _ _ _ h => h | exact fun _ _ _ h => (by cases h.1)
    case hy1a => (refine Or.inl ⟨by rfl, ?_⟩; intro wz hSw; obtain ⟨hS1, hS2⟩ := hSw; go_simp; first | done | with_reducible rfl | simp | omega)
    try simp only [Act.put, List.setIfInBounds_toArray, List.set_cons_zero, List.set_cons_succ]
    refine anyT_take (i := 2) (oi := ?oi2a) (v := .int .i64 (x : Int)) ?hi2a (by kernel_rfl) ?hq2a ?hy2a (by assumption) ?rest2a
    case hi2a => (simp only [List.getElem?_toArray, List.getElem?_cons_succ, List.getElem?_cons_zero]; first | done | rfl)
    case hq2a => first | exact fun _ _ _ h => h | exact fun _ _ _ h => (by cases h.1)
    case hy2a => (refine Or.inl ⟨by rfl, ?_⟩; intro wz hSw; obtain ⟨hS1, hS2⟩ := hSw; go_simp; first | done | with_reducible rfl | simp | omega)
    try simp only [Act.put, List.setIfInBounds_toArray, List.set_cons_zero, List.set_cons_succ]
    refine anyT_one (i := 3) (by kernel_rfl) rfl (fun K' hK => ?_)
    go_simp
    refine hcalld.mono ?_
    rintro e W2 ⟨rfl, hi2, hU2⟩
    have bS2 := hU2.boxed bSd (fun e => by have := hM _ e; omega)
    have bV2 := hU2.boxed bVd (fun e => by have := hM _ e; omega)
    have hS2 : (fun w' => w'.cell? ⟨w.heap.size + 1, 0, none⟩ = some (.int .i64 (lsum g pre)) ∧ w'.cell? ⟨w.heap.size, 0, none⟩ = some (.func (.func vf) #[] vb)) W2 := ⟨bS2.cell, bV2.cell⟩
    refine hK.out _ _ (fun _ => hS2) ?_
    clear hK K'
    try simp only [Act.put, List.setIfInBounds_toArray, List.set_cons_zero, List.set_cons_succ]
    refine anyT_one (i := 4) (by kernel_rfl) rfl (fun K' hK => ?_)
    go_simp
    refine hK.out _ _ (fun _ => hS2) ?_
    clear hK K'
    try simp only [Act.put, List.setIfInBounds_toArray, List.set_cons_zero, List.set_cons_succ]
    have hcS2 := bS2.cell
    have hfS2 := bS2.frozen
    refine anyT_one (i := 5) (by kernel_rfl) rfl (fun K' hK => ?_)
    go_simp
    refine hK.out _ _ (fun h => absurd rfl h) ?_
    clear hK K'
    try simp only [Act.put, List.setIfInBounds_toArray, List.set_cons_zero, List.set_cons_succ]
    refine anyT_done (by kernel_rfl) ?_ _
    have hz2 := hU2.size
    have hzd := hWd.size
    have hus : Upd (fun k => k = w.heap.size + 1) W2 (W2.setCell ⟨w.heap.size + 1, 0, none⟩ (.int .i64 (lsum g pre + g x))) := (Upd.refl (fun k => k = w.heap.size + 1) W2).setCell (p := ⟨w.heap.size + 1, 0, none⟩) (.inr rfl) _
    have hV2 : Upd (fun k => (M k ∨ k = w.heap.size + 1) ∨ D1 k ∨ W.heap.size ≤ k) Wb W2 := (hWd.mono (fun _ _ e => e.elim)).trans' hU2 (fun i hi e => .inl (.inl e))
    gi_wp2
    exact ⟨D1, ⟨by rw [Hsn.out]; exact bS2.set _, hInv _ _ _ hi2 (by omega) (hus.mono fun _ _ e => by omega), (hUd.trans' hU2 (fun i hi e => .inl e)).trans' hus (fun i hi e => .inr e)⟩, hV2.trans' hus (fun i hi e => .inl (.inr e)), fun k hk => .inl hk⟩
  case done =>
    rintro d D1 W hd ⟨bS1, hi1, hU⟩ hD1 hKd
    have hcS := bS1.cell
    gi_wp2
    refine leaves_marks [d] _ ⟨by simp, fun b hb => ?_⟩ (fun W' hu' => ?_)
    · rw [List.mem_singleton.1 hb]
      exact hKd
    · have hsz := hU.size
      exact ⟨_, by simp [results, Try.f126, go_sem], rfl, hInv _ _ _ hi1 (by omega) (hu'.mono fun k _ e => by simp at e; omega),
        ((hu0.mono fun _ _ e => e.elim).trans' hU (fun i hi e => e.elim id (fun e => by omega))).trans' hu' (fun i hi e => by simp at e; omega)⟩
  case stop =>
    rintro d D1 co pre W hd hpre h
    exact h.elim
end Go.Proofs.Ytcadmjpkgnbodaa

/- SignByChains: the program's chains. -/
namespace Go.Proofs.Ytcadmjpkgnbodaa
open Go.RowKit Go.Shelf
attribute [local go_sem] Oper.semAt_some
attribute [local go_sem, local simp] wide_fn

/-- What holds between two rounds. -/
def FilIn (p : Nat → Bool) (J : List Nat → (Nat → Prop) → World → Prop) (M : Nat → Prop) (Wc : World) (xs : List Nat) (D : Nat → Prop) (W : World) : Prop :=
  ∃ D2, J (xs.filter p) D2 W ∧ (∀ j, D2 j → D j) ∧ Upd M Wc W
theorem FilIn.firm {p : Nat → Bool} {J : List Nat → (Nat → Prop) → World → Prop} {M : Nat → Prop} {B : Nat} {Wc : World} (hJ : Firm B J) (hB : B ≤ Wc.heap.size) : Firm Wc.heap.size (FilIn p J M Wc) := by
  rintro s D W W' ⟨D2, hj, h2, hu⟩ hw
  exact ⟨D2, hJ _ _ _ _ hj (hw.mono fun j _ e => ⟨by omega, fun e2 => e.2 (h2 j e2)⟩), h2, hu.trans' hw (fun i hi e => by omega)⟩

end Go.Proofs.Ytcadmjpkgnbodaa

/- SignByChains: the program's. -/
namespace Go.Proofs.Ytcadmjpkgnbodaa
open Go.RowKit Go.Shelf
attribute [local go_sem] Oper.semAt_some
attribute [local go_sem, local simp] wide_fn

section
variable {P : Program} {ops : Array Oper} {Q : Exit → Act → World → Prop} {S : World → Prop} {md : Region.Mode} {z : Nat}
/-- Two may come up: both ways. -/
theorem anyT_two2 {i j : Nat} {oi oj : Oper} {fuel : Nat} {listed : Array Bool} {a : Act} {w : World} (hr : Region.ready md ops listed = [i, j]) (hoi : ops[i]? = some oi) (hoj : ops[j]? = some oj)
    (h1 : ∀ K' : Act → World → Prop, Shut (∀ a w, (i ≠ z → S w) → anyT P md ops Q S z fuel (listed.setIfInBounds i true) a w → K' a w) → if Region.wanted oi (yielded ops a.tmps) = true then Oper.wp P oi a w K' Q else K' (a.put oi.dst undef) w)
    (h2 : ∀ K' : Act → World → Prop, Shut (∀ a w, (j ≠ z → S w) → anyT P md ops Q S z fuel (listed.setIfInBounds j true) a w → K' a w) → if Region.wanted oj (yielded ops a.tmps) = true then Oper.wp P oj a w K' Q else K' (a.put oj.dst undef) w) :
    anyT P md ops Q S z (fuel + 1) listed a w :=
  ⟨fun h0 => (by rw [hr] at h0; cases h0), fun k hk => by
    rw [hr] at hk
    rcases List.mem_cons.1 hk with rfl | hk
    · exact wpOp_step hoi (fun K' hK => h1 K' (fun a w hS hW => hK a w ⟨hS, hW⟩))
    · obtain rfl := List.mem_singleton.1 hk
      exact wpOp_step hoj (fun K' hK => h2 K' (fun a w hS hW => hK a w ⟨hS, hW⟩))⟩
/-- Three may come up. -/
theorem anyT_three {i j k : Nat} {oi oj ok : Oper} {fuel : Nat} {listed : Array Bool} {a : Act} {w : World} (hr : Region.ready md ops listed = [i, j, k]) (hoi : ops[i]? = some oi) (hoj : ops[j]? = some oj) (hok : ops[k]? = some ok)
    (h1 : ∀ K' : Act → World → Prop, Shut (∀ a w, (i ≠ z → S w) → anyT P md ops Q S z fuel (listed.setIfInBounds i true) a w → K' a w) → if Region.wanted oi (yielded ops a.tmps) = true then Oper.wp P oi a w K' Q else K' (a.put oi.dst undef) w)
    (h2 : ∀ K' : Act → World → Prop, Shut (∀ a w, (j ≠ z → S w) → anyT P md ops Q S z fuel (listed.setIfInBounds j true) a w → K' a w) → if Region.wanted oj (yielded ops a.tmps) = true then Oper.wp P oj a w K' Q else K' (a.put oj.dst undef) w)
    (h3 : ∀ K' : Act → World → Prop, Shut (∀ a w, (k ≠ z → S w) → anyT P md ops Q S z fuel (listed.setIfInBounds k true) a w → K' a w) → if Region.wanted ok (yielded ops a.tmps) = true then Oper.wp P ok a w K' Q else K' (a.put ok.dst undef) w) :
    anyT P md ops Q S z (fuel + 1) listed a w :=
  ⟨fun h0 => (by rw [hr] at h0; cases h0), fun x hx => by
    rw [hr] at hx
    rcases List.mem_cons.1 hx with rfl | hx
    · exact wpOp_step hoi (fun K' hK => h1 K' (fun a w hS hW => hK a w ⟨hS, hW⟩))
    · rcases List.mem_cons.1 hx with rfl | hx
      · exact wpOp_step hoj (fun K' hK => h2 K' (fun a w hS hW => hK a w ⟨hS, hW⟩))
      · obtain rfl := List.mem_singleton.1 hx
        exact wpOp_step hok (fun K' hK => h3 K' (fun a w hS hW => hK a w ⟨hS, hW⟩))⟩
end

end Go.Proofs.Ytcadmjpkgnbodaa

/- IsIdeal, BelowOf, NextIdeal: the program's. -/
namespace Go.Proofs.Ytcadmjpkgnbodaa
open Go.RowKit Go.Shelf
attribute [local go_sem] Oper.semAt_some
attribute [local go_sem, local simp] wide_fn

theorem less_all_fin : ∀ n : Fin 7, ∀ k : Fin 64, (k.val : Int) < powI (n.val : Int) → lessI (powI (n.val : Int) - 1) (k.val : Int) = powI (n.val : Int) - 1 - (k.val : Int) := by decide +kernel
theorem less_all {n : Nat} {s : Int} (hn : n ≤ 6) (h0 : 0 ≤ s) (h1 : s < powI n) : lessI (powI n - 1) s = powI n - 1 - s := by
  have hpn := powI_le6 (n := (n : Int)) (by omega)
  obtain ⟨k, rfl⟩ := Int.eq_ofNat_of_zero_le h0
  exact less_all_fin ⟨n, by omega⟩ ⟨k, by omega⟩ h1

end Go.Proofs.Ytcadmjpkgnbodaa

/- Ideals, counted by the lowest item of what is left, as plain mathematics. No program. -/
namespace Go.Proofs.Ytcadmjpkgnbodaa

/-- The lowest item of a set. -/
def low (s : Nat) : Nat := ((List.range 6).find? fun a => s.testBit a).getD 0
theorem low_fin : ∀ s : Fin 64, s.val ≠ 0 → low s.val < 6 ∧ s.val.testBit (low s.val) = true := by decide +kernel
/-- What is left without the lowest item, and without those that z has. -/
def lessN (s : Nat) (z : Int) : Nat := (lessI (lessI (s : Int) (powI (low s : Int))) z).toNat
theorem rest_fin : ∀ s : Fin 64, s.val ≠ 0 → lessI (s.val : Int) (powI (low s.val : Int)) = ((s.val - 2 ^ low s.val : Nat) : Int) ∧ 2 ^ low s.val ≤ s.val := by decide +kernel
theorem lessN_lt {s : Nat} (z : Int) (h0 : s ≠ 0) (h1 : s < 64) : lessN s z < s := by
  have h2 := rest_fin ⟨s, h1⟩ h0
  simp only at h2
  have h3 := lessI_bd (lessI (s : Int) (powI (low s : Int))) z
  have h4 := Nat.two_pow_pos (low s)
  unfold lessN
  rw [h2.1] at h3 ⊢
  omega
def ciN (zs : List Int) (s : Nat) : Nat := if _h : s = 0 ∨ 64 ≤ s then 1 else ciN zs (lessN s (zs[low s]?.getD 0)) + ciN zs (lessN s ((du zs)[low s]?.getD 0))
termination_by s
decreasing_by
  · exact lessN_lt _ (by omega) (by omega)
  · exact lessN_lt _ (by omega) (by omega)
theorem ciN_zero (zs : List Int) : ciN zs 0 = 1 := by rw [ciN]; rfl
theorem ciN_pos {zs : List Int} {s : Nat} (h0 : s ≠ 0) (h1 : s < 64) : ciN zs s = ciN zs (lessN s (zs[low s]?.getD 0)) + ciN zs (lessN s ((du zs)[low s]?.getD 0)) := by
  rw [ciN, dif_neg (by omega)]
/-- How many items: as a number that is none less than 0. -/
def pcN (s : Nat) : Nat := (popI (s : Int)).toNat
theorem pc_sub_fin : ∀ r : Fin 64, ∀ u : Fin 64, u.val &&& r.val = u.val → pcN u.val ≤ pcN r.val := by decide +kernel
theorem pc_rest_fin : ∀ s : Fin 64, s.val ≠ 0 → pcN (s.val - 2 ^ low s.val) + 1 = pcN s.val := by decide +kernel
theorem pc_le_fin : ∀ s : Fin 64, pcN s.val ≤ 6 := by decide +kernel
theorem lessN_in {s : Nat} (z : Int) (h0 : s ≠ 0) (h1 : s < 64) : pcN (lessN s z) + 1 ≤ pcN s := by
  have h2 := rest_fin ⟨s, h1⟩ h0
  have h3 := pc_rest_fin ⟨s, h1⟩ h0
  simp only at h2 h3
  have hlt := lessN_lt z h0 h1
  have hpw := Nat.two_pow_pos (low s)
  have h4 : lessN s z &&& (s - 2 ^ low s) = lessN s z := by
    refine Nat.eq_of_testBit_eq fun j => ?_
    rw [Nat.testBit_and]
    have hb := bitB_less (lessI (s : Int) (powI (low s : Int))) z (j : Int)
    rw [h2.1] at hb
    have e : ∀ (x : Int), 0 ≤ x → bitB x (j : Int) = x.toNat.testBit j := fun x hx => by simp [bitB]
    have hnn := lessI_bd ((s - 2 ^ low s : Nat) : Int) z
    unfold lessN
    rw [h2.1]
    rw [e _ hnn.1, e _ (Int.natCast_nonneg _), Int.toNat_natCast] at hb
    rw [hb]
    cases (s - 2 ^ low s).testBit j <;> simp
  have h5 := pc_sub_fin ⟨s - 2 ^ low s, by omega⟩ ⟨lessN s z, by omega⟩ h4
  simp only at h5
  omega
theorem ciN_le (zs : List Int) : ∀ (k s : Nat), s ≤ k → s < 64 → ciN zs s ≤ 2 ^ pcN s
  | 0, s, hk, _ => by
    obtain rfl : s = 0 := by omega
    rw [ciN_zero]; exact Nat.two_pow_pos _
  | k + 1, s, hk, h1 => by
    by_cases h0 : s = 0
    · subst h0; rw [ciN_zero]; exact Nat.two_pow_pos _
    · rw [ciN_pos h0 h1]
      have a1 := lessN_lt (zs[low s]?.getD 0) h0 h1
      have a2 := lessN_lt ((du zs)[low s]?.getD 0) h0 h1
      have b1 := ciN_le zs k _ (show lessN s (zs[low s]?.getD 0) ≤ k by omega) (by omega)
      have b2 := ciN_le zs k _ (show lessN s ((du zs)[low s]?.getD 0) ≤ k by omega) (by omega)
      have c1 := lessN_in (zs[low s]?.getD 0) h0 h1
      have c2 := lessN_in ((du zs)[low s]?.getD 0) h0 h1
      have d1 : 2 ^ pcN (lessN s (zs[low s]?.getD 0)) ≤ 2 ^ (pcN s - 1) := Nat.pow_le_pow_right (by decide) (by omega)
      have d2 : 2 ^ pcN (lessN s ((du zs)[low s]?.getD 0)) ≤ 2 ^ (pcN s - 1) := Nat.pow_le_pow_right (by decide) (by omega)
      have d3 : 2 ^ pcN s = 2 * 2 ^ (pcN s - 1) := by rw [← Nat.pow_succ']; congr 1; omega
      omega
theorem ciN_64 (zs : List Int) {s : Nat} (h : s < 64) : ciN zs s ≤ 64 := by
  have h1 := ciN_le zs s s (Nat.le_refl _) h
  have h2 := pc_le_fin ⟨s, h⟩
  have h3 : (2 : Nat) ^ pcN s ≤ 2 ^ 6 := Nat.pow_le_pow_right (by decide) h2
  omega
def countIdealsR (zs : List Int) : Int := if vo zs then (ciN zs (2 ^ zs.length - 1) : Int) else -1
/-- As the program reckons it: without the item all that is below it or it. -/
theorem less_bel {zs : List Int} (h : VoP zs) {s : Nat} (h0 : s ≠ 0) (h1 : s < 2 ^ zs.length) :
    lessI (lessI (s : Int) (powI (low s : Int))) (belI zs (powI (low s : Int))) = lessI (lessI (s : Int) (powI (low s : Int))) ((du zs)[low s]?.getD 0) := by
  have h6 := h.1
  have h64 : s < 64 := Nat.lt_of_lt_of_le h1 (Nat.pow_le_pow_right (n := 2) (by decide) h6)
  obtain ⟨hl, hb⟩ := low_fin ⟨s, h64⟩ h0
  simp only at hl hb
  have hln : low s < zs.length := by
    rcases Nat.lt_or_ge (low s) zs.length with e | e
    · exact e
    · rw [Nat.testBit_lt_two_pow (Nat.lt_of_lt_of_le h1 (Nat.pow_le_pow_right (by decide) e))] at hb; cases hb
  refine bitB_ext (lessI_bd _ _).1 (lessI_bd _ _).1 fun j => ?_
  simp only [bitB_less, bitB_pow]
  by_cases hj : low s = j
  · simp [hj]
  · have e : bitB (belI zs (powI (low s : Int))) j = bitB ((du zs)[low s]?.getD 0) j := by
      rw [Bool.eq_iff_iff, belI_bit h.sets (powI_lt hln), du_bit h.sets]
      constructor
      · rintro (e | ⟨b, hb2, hz⟩)
        · rw [bitB_pow] at e; exact absurd (of_decide_eq_true e) hj
        · rw [bitB_pow] at hb2
          have := of_decide_eq_true hb2
          subst this; exact hz
      · intro e
        exact .inr ⟨low s, by rw [bitB_pow]; simp, e⟩
    rw [e]
end Go.Proofs.Ytcadmjpkgnbodaa

/- The first item of a set: the program's, by the library's table. -/
namespace Go.Proofs.Ytcadmjpkgnbodaa
open Go.RowKit

theorem tz_and_fin : ∀ s : Fin 64, s.val ≠ 0 → bits .and .u64 (s.val : Int) (IntKind.u64.wrap (-(s.val : Int))) = ((2 ^ low s.val : Nat) : Int) := by decide +kernel
theorem tz_mul_fin : ∀ a : Fin 6, 2 ^ a.val * 285870213051353865 / 288230376151711744 = 2 ^ a.val - 1 := by decide +kernel

end Go.Proofs.Ytcadmjpkgnbodaa

/- CountIdeals: the program's. -/
namespace Go.Proofs.Ytcadmjpkgnbodaa
open Go.RowKit Go.Shelf

end Go.Proofs.Ytcadmjpkgnbodaa

/- One element put at its place: an append of any number of elements, as a step of a region that draws its order. -/
namespace Go.Proofs.Ytcadmjpkgnbodaa
open Go.RowKit

section
variable {P : Program} (w : World)
theorem own_form {w : World} {base n : Nat} {e : TypeId} {v : Value} {xs : List Value} (h : w.ownsRow base e 1 v n xs) (hv : v ≠ .slice none 0 0) : ∃ g cap, v = .slice (some ⟨g, 0, none⟩) n cap ∧ base ≤ g ∧ g < w.heap.size ∧ n ≤ cap ∧ cap ≤ maxLen := by
  rcases h.2 with ⟨e, _⟩ | ⟨g, cap, cur, rfl, hg, hc, h1, h2, _⟩
  · exact absurd e hv
  · exact ⟨g, cap, rfl, hg, (Array.getElem?_eq_some_iff.1 hc).1, h1, h2⟩
theorem step_append_any {ops : Array Oper} {o : Oper} {a : Act} {K : Act → World → Prop} {Q : Exit → Act → World → Prop} {E : Prop} (hgd : o.guard = none) (s x : Operand) (t : TypeId)
    (ho : o.op = .call { callee := .builtin .append, args := #[s, x], argTypes := #[t, t] })
    (base : Nat) (e : TypeId) (i : TypeInfo) (z : Value) (bytes : Nat) (ht : P.underlying t = some (.slice e)) (hi : P.info? e = some i) (hz : i.zero = some z)
    (hsize : i.size = 1) (hby : i.bytes = bytes) (hzs : z.cells.size = 1)
    (v : Value) (n : Nat) (xs : List Value) (hs : a.eval s = v) (hv : v ≠ .slice none 0 0) (hown : w.ownsRow base e 1 v n xs)
    (ad : Addr) (m c : Nat) (news : List Value) (hx : a.eval x = .slice (some ad) m c) (hl : news.length = m) (hnews : ∀ j u, news[j]? = some u → w.cell? (ad.add j) = some u) (h1 : ∀ u ∈ news, u.oneCell' = true)
    (h63 : n + m ≤ maxLen) (hbytes : (n + m) * bytes ≤ 140737488355328) (hbase : base ≤ w.heap.size)
    (h : ∀ g cap w', w'.ownsRow base e 1 (.slice (some ⟨g, 0, none⟩) (n + m) cap) (n + m) (xs ++ news) → w.grownBy w' v.ownBlock → base ≤ g → g < w'.heap.size → n + m ≤ cap → cap ≤ maxLen → K (a.put o.dst (.slice (some ⟨g, 0, none⟩) (n + m) cap)) w') :
    if Region.wanted o (yielded ops a.tmps) = true then Oper.wp P o a w K Q else E := by
  have hw : Region.wanted o (yielded ops a.tmps) = true := by simp [Region.wanted, hgd]
  rw [if_pos hw]
  obtain ⟨v', w', hr, h2, h3, h4, _⟩ := run_append_own_at (P := P) w base t o.type e i z 1 bytes ht hi hz hsize hby hzs (by omega) v n xs hown ad m c news (by omega) hnews h1 h63 hbytes hbase
  obtain ⟨g, cap, rfl, hg, hlt, hnc, hcm⟩ := own_form h2 (fun e => hv (h4.1 e).1)
  unfold Oper.wp execOp
  simp only [ho, resolve, invoke, builtin, Sem.run_bind, Sem.run_pure, Result.andThen_ok, List.map_toArray, List.map_cons, List.map_nil, hs, hx, hr]
  exact h g cap w' h2 h3 hg hlt hnc hcm
theorem own_sooner {w : World} {b b' n : Nat} {e : TypeId} {v : Value} {xs : List Value} (h : w.ownsRow b e 1 v n xs) (hb : b' ≤ b) : w.ownsRow b' e 1 v n xs := by
  refine ⟨h.1, ?_⟩
  rcases h.2 with h1 | ⟨g, cap, cur, rfl, hg, hrest⟩
  · exact .inl h1
  · exact .inr ⟨g, cap, cur, rfl, by omega, hrest⟩
end
/-- The row's numbers from one place on, or up to one: as what is appended. -/
theorem news_at {w w' : World} {B b k n : Nat} {ts zs : List Int} (hc : ∀ j, j < n → w.cell? ⟨b, j, none⟩ = some (.int .i64 (ts[j]?.getD 0))) (hu : Upd (fun k => B ≤ k) w w') (hb : b < B) {ad : Addr}
    (had : ∀ j, j < zs.length → ad.add j = ⟨b, k + j, none⟩) (hz : ∀ j, j < zs.length → zs[j]?.getD 0 = ts[k + j]?.getD 0) (hl : k + zs.length ≤ n) :
    ∀ j u, (zs.map (Value.int .i64))[j]? = some u → w'.cell? (ad.add j) = some u := fun j u hu' => by
  rw [List.getElem?_map] at hu'
  cases hg : zs[j]? with
  | none => rw [hg] at hu'; cases hu'
  | some z =>
    have hj : j < zs.length := (List.getElem?_eq_some_iff.1 hg).1
    rw [hg] at hu'
    simp only [Option.map_some, Option.some.injEq] at hu'
    rw [had j hj, hu.cell (hc (k + j) (by omega)) (by simp; omega), ← hz j hj, hg, ← hu']
    rfl
theorem news_one {w : World} {ad : Addr} {u : Value} (h : w.cell? ad = some u) : ∀ j u', [u][j]? = some u' → w.cell? (ad.add j) = some u' := fun j u' hu => by
  cases j with
  | zero => simp at hu; subst hu; simpa [Addr.add] using h
  | succ j => simp at hu
theorem cell_new_alloc (w : World) (e : TypeId) (u : Value) (o : Obj) : ((w.alloc (.cells #[u] e)).alloc o).cell? ⟨w.heap.size, 0, none⟩ = some u :=
  (World.cell?_of_block (Below.heap_alloc _ _ _ (by simp))).trans (cell_new w e u)
theorem own_new2 (w : World) (o : Obj) (e : TypeId) : ((w.alloc o).alloc (.cells #[] e)).ownsRow w.heap.size e 1 (.slice (some ⟨w.heap.size + 1, 0, none⟩) 0 0) 0 [] := by
  have h := own_new (w.alloc o) e
  rw [World.size_alloc] at h
  exact own_sooner h (by omega)
theorem own_cells {w : World} {base n g cap : Nat} {e : TypeId} {zs : List Int} (h : w.ownsRow base e 1 (.slice (some ⟨g, 0, none⟩) n cap) n (zs.map (Value.int .i64))) :
    zs.length = n ∧ ∀ j, j < n → w.cell? ⟨g, j, none⟩ = some (.int .i64 (zs[j]?.getD 0)) := by
  obtain ⟨A, c, e, hI⟩ := ints_of_own h
  cases e
  refine ⟨hI.len, fun j hj => ?_⟩
  obtain ⟨b, off, e, _, hc⟩ := hI.at_ hj
  cases e
  simpa using hc j hj
theorem own_ge {w : World} {B n : Nat} {e : TypeId} {v : Value} {xs : List Value} (h : w.ownsRow B e 1 v n xs) : ∀ k, v.ownBlock = some k → B ≤ k := own_base h
end Go.Proofs.Ytcadmjpkgnbodaa

/- Rows that grew by append: their block has spare cells behind; marking them. -/
namespace Go.Proofs.Ytcadmjpkgnbodaa
open Go.RowKit

/-- A row at the head of a block of numbers' cells, in a block from lo up to less than hi (empty ones may lie anywhere). -/
def RowV (w : World) (lo hi : Nat) (A : Option Addr) (n : Nat) (xs : List Int) : Prop :=
  xs.length = n ∧ (0 < n → ∃ b cur, A = some ⟨b, 0, none⟩ ∧ lo ≤ b ∧ b < hi ∧ w.heap[b]? = some (.cells cur 3 (0, 0)) ∧ cur.toList.take n = xs.map (Value.int .i64))
section
variable {w w' : World} {lo hi n : Nat} {A : Option Addr} {xs : List Int} {R : Nat → Prop}
theorem RowV.len (h : RowV w lo hi A n xs) : xs.length = n := h.1
theorem RowV.nil (w : World) (lo hi : Nat) (A : Option Addr) : RowV w lo hi A 0 [] := ⟨rfl, fun h => absurd h (by omega)⟩
theorem RowV.upd (h : RowV w lo hi A n xs) (hu : Upd R w w') (hr : ∀ j, R j → j < lo ∨ hi ≤ j) : RowV w' lo hi A n xs :=
  ⟨h.1, fun hn => by
    obtain ⟨b, cur, e, hl, hb, hc, ht⟩ := h.2 hn
    exact ⟨b, cur, e, hl, hb, (hu.block b (Array.getElem?_eq_some_iff.1 hc).1 (fun hr' => by have := hr b hr'; omega)).trans hc, ht⟩⟩
theorem RowV.below {B : Nat} (h : RowV w lo hi A n xs) (hu : Below B w w') (hB : hi ≤ B) : RowV w' lo hi A n xs := h.upd (Below.toUpd hu) (fun j hj => by omega)
theorem RowV.more {lo' hi' : Nat} (h : RowV w lo hi A n xs) (h1 : lo' ≤ lo) (h2 : hi ≤ hi') : RowV w lo' hi' A n xs :=
  ⟨h.1, fun hn => by
    obtain ⟨b, cur, e, hl, hb, hc⟩ := h.2 hn
    exact ⟨b, cur, e, by omega, by omega, hc⟩⟩
theorem take_at {cur : Array Value} {n j : Nat} {ys : List Value} (h : cur.toList.take n = ys) (hj : j < n) : cur[j]? = ys[j]? := by
  rw [← h, List.getElem?_take, if_pos hj, Array.getElem?_toList]
theorem RowV.told (h : RowV w lo hi A n xs) : RowC w lo hi A n xs :=
  ⟨h.1, fun hn => by
    obtain ⟨b, cur, e, hl, hb, hc, ht⟩ := h.2 hn
    refine ⟨b, e, hl, hb, fun j hj => ?_⟩
    have hj2 : j < xs.length := by rw [h.1]; exact hj
    rw [cell_of_row w b j _ _ (0, 0) hc, take_at ht hj, List.getElem?_map, List.getElem?_eq_getElem hj2]
    simp⟩
theorem RowV.ints (h : RowV w lo hi A n xs) {B : Nat} (hB : hi ≤ B) : Ints w B A n xs := h.told.ints hB
theorem rowV_of_own {base m : Nat} {v : Value} (h : w.ownsRow base 3 1 v m (xs.map (Value.int .i64))) : ∃ A c, v = .slice A m c ∧ RowV w base w.heap.size A m xs := by
  have hl : xs.length = m := by simpa using h.1
  rcases h.2 with ⟨rfl, rfl⟩ | ⟨g, cap, cur, rfl, hg, hc, _, _, _, ht⟩
  · obtain rfl : xs = [] := List.eq_nil_of_length_eq_zero hl
    exact ⟨none, 0, rfl, RowV.nil _ _ _ _⟩
  · exact ⟨_, cap, rfl, hl, fun _ => ⟨g, cur, rfl, hg, (Array.getElem?_eq_some_iff.1 hc).1, hc, by simpa using ht⟩⟩
end

set_option maxHeartbeats 1000000 in
theorem markIntS_cells (b n c : Nat) (zs : List Int) (cur : Array Value) (k : Int) (w : World) (hA : w.heap[b]? = some (.cells cur 3 (0, 0))) (ht : cur.toList.take n = zs.map (Value.int .i64)) (hn : zs.length = n) (hbig : n ≤ 1048576) (hk0 : 0 ≤ k) (hk1 : k ≤ 1152921504606846976) :
    Calls Try.prog 18 #[.slice (some ⟨b, 0, none⟩) n c, .int .i64 k] w fun e w' => e = .returned (.int .i64 (k + n)) ∧ (∃ cur' : Array Value, w'.heap[b]? = some (.cells cur' 3 (0, 0)) ∧ cur'.toList.take n = (counted k n).map (Value.int .i64)) ∧ w.grownBy w' (some b) := by
  have hlen := Lib.hid hn
  clear hn
  go_enter Try.func18, Try.ntmps18
  go_wp2
  go_loopw [1, 5] (fun v i wr => ∃ j : Nat, j ≤ n ∧ i = .int .i64 j ∧ v = .int .i64 (k + j) ∧ (∃ cur' : Array Value, wr.heap[b]? = some (.cells cur' 3 (0, 0)) ∧ cur'.toList.take n = (markedTo zs k j).map (Value.int .i64)) ∧ w.grownBy wr (some b)) (fun _ i _ => n - (intOf i).toNat)
  case atStart => exact ⟨0, by omega, rfl, by go_num, ⟨cur, hA, ht⟩, World.grownBy.refl w _⟩
  case round =>
    obtain ⟨j, hj, rfl, rfl, ⟨cur', hc, hm⟩, hG⟩ := hrel
    rename World => wx
    by_cases hlt : j < n
    · have hl2 := markedTo_len (zs := zs) (k := k) (i := j) (by rw [hlen.out]; exact hj)
      have hcs : wx.cell? ⟨b, j, none⟩ = some (.int .i64 ((markedTo zs k j)[j]?.getD 0)) := by
        rw [cell_of_row _ b j _ _ (0, 0) hc, take_at hm hlt, List.getElem?_map, List.getElem?_eq_getElem (by rw [hl2, hlen.out]; exact hlt)]
        simp
      have hfs := frozen_of_row _ b j _ _ hc
      have Hms := Lib.hid (markedTo_succ (zs := zs) (k := k) (i := j) (by rw [hlen.out]; exact hlt))
      have Hm := Lib.hid hm
      clear hl2 hm
      go_wp2
      go_roundw
      case rel =>
        refine ⟨j + 1, by omega, by go_num, by rw [Int.natCast_add, ← Int.add_assoc]; rfl, ⟨cur'.setIfInBounds j (.int .i64 (k + (j : Int))), by simp [World.setCell, Array.getElem?_modify, hc], ?_⟩, only_setCell hG (.inl rfl) _⟩
        rw [Array.toList_setIfInBounds, List.take_set, Hm.out, ← List.map_set, Hms.out]
      case measure => simp [intOf]; omega
    · obtain rfl : j = n := by omega
      go_wp2
      go_ret
      refine ⟨rfl, ⟨cur', hc, ?_⟩, hG⟩
      rw [hm, markedTo, List.drop_eq_nil_of_le (by rw [hlen.out]; exact Nat.le_refl _), List.append_nil]

theorem markIntS_rowV (A : Option Addr) (n c lo hi : Nat) (xs : List Int) (k : Int) (w : World) (h : RowV w lo hi A n xs) (hbig : n ≤ 1048576) (hk0 : 0 ≤ k) (hk1 : k ≤ 1152921504606846976) :
    Calls Try.prog 18 #[.slice A n c, .int .i64 k] w fun e w' => e = .returned (.int .i64 (k + n)) ∧ RowV w' lo hi A n (counted k n) ∧ Upd (fun j => lo ≤ j ∧ j < hi) w w' := by
  by_cases hn : 0 < n
  · obtain ⟨b, cur, rfl, hl, hb, hA, ht⟩ := h.2 hn
    refine (markIntS_cells b n c xs cur k w hA ht h.1 hbig hk0 hk1).mono ?_
    rintro e w' ⟨rfl, ⟨cur', hA', ht'⟩, hg⟩
    exact ⟨rfl, ⟨by simp [counted], fun _ => ⟨b, cur', rfl, hl, hb, hA', ht'⟩⟩, (Upd.refl _ _).grown hg (fun j e => by cases e; exact .inr ⟨hl, hb⟩)⟩
  · obtain rfl : n = 0 := by omega
    refine (markIntS_nil A c k w).mono ?_
    rintro e w' ⟨rfl, rfl⟩
    exact ⟨ret_int (by simp), by simpa [counted] using RowV.nil _ lo hi A, Upd.refl _ _⟩
/-- What a function that hands back a new row of numbers does. -/
def GivesRowV (w : World) (xs : List Int) (e : Ending) (w' : World) : Prop := ∃ A n c, e = .returned (.slice A n c) ∧ RowV w' w.heap.size w'.heap.size A n xs ∧ Below w.heap.size w w'
/-- What a function that hands back a new row and whether there is one does. -/
def GivesAtV (w : World) (xs : List Int) (t : Bool) (e : Ending) (w' : World) : Prop := ∃ A n c, e = .returned (.tuple #[.slice A n c, .bool t]) ∧ RowV w' w.heap.size w'.heap.size A n xs ∧ Below w.heap.size w w'
theorem RowV.set0 {w : World} {lo hi n : Nat} {A : Option Addr} {xs : List Int} (h : RowV w lo hi A n xs) {b : Nat} (hA : A = some ⟨b, 0, none⟩) (v : Int) : RowV (w.setCell ⟨b, 0, none⟩ (.int .i64 v)) lo hi A n (xs.set 0 v) :=
  ⟨by rw [List.length_set]; exact h.1, fun hn => by
    obtain ⟨b', cur, e, hl, hb, hc, ht⟩ := h.2 hn
    rw [hA] at e
    cases e
    exact ⟨b, cur.setIfInBounds 0 (.int .i64 v), hA, hl, hb, by simp [World.setCell, Array.getElem?_modify, hc], by rw [Array.toList_setIfInBounds, List.take_set, ht, ← List.map_set]⟩⟩
theorem RowV.cell {w : World} {lo hi n : Nat} {A : Option Addr} {xs : List Int} (h : RowV w lo hi A n xs) (hn : 0 < n) : ∃ b, A = some ⟨b, 0, none⟩ ∧ lo ≤ b ∧ b < hi ∧ (∀ j, w.frozen? ⟨b, j, none⟩ = false) ∧ ∀ j, j < n → w.cell? ⟨b, j, none⟩ = some (.int .i64 (xs[j]?.getD 0)) := by
  obtain ⟨b, cur, e, hl, hb, hc, ht⟩ := h.2 hn
  obtain ⟨b', e', _, _, hcell⟩ := h.told.2 hn
  rw [e] at e'
  cases e'
  exact ⟨b, e, hl, hb, fun j => frozen_of_row _ _ j _ _ hc, hcell⟩
end Go.Proofs.Ytcadmjpkgnbodaa

/- slices.Clone of an order; a row under way whose cells are stored into; what a list of sets tells, of two lists. -/
namespace Go.Proofs.Ytcadmjpkgnbodaa
open Go.RowKit Go.Shelf
attribute [local go_sem] Oper.semAt_some
attribute [local go_sem, local simp] wide_fn

section
variable {P : Program} (w : World)
theorem wpList_appendK {ops : Array Oper} {rest : List Oper} {o : Oper} {a : Act} {Q : Exit → Act → World → Prop} (hgd : o.guard = none) (s x : Operand) (t : TypeId)
    (ho : o.op = .call { callee := .builtin .append, args := #[s, x], argTypes := #[t, t] })
    (base : Nat) (e : TypeId) (i : TypeInfo) (z : Value) (bytes : Nat) (ht : P.underlying t = some (.slice e)) (hi : P.info? e = some i) (hz : i.zero = some z)
    (hsize : i.size = 1) (hby : i.bytes = bytes) (hzs : z.cells.size = 1)
    (v : Value) (n : Nat) (xs : List Value) (hs : a.eval s = v) (hown : w.ownsRow base e 1 v n xs)
    (ad : Addr) (m c : Nat) (news : List Value) (hx : a.eval x = .slice (some ad) m c) (hl : news.length = m) (hnews : ∀ j u, news[j]? = some u → w.cell? (ad.add j) = some u) (h1 : ∀ u ∈ news, u.oneCell' = true)
    (h63 : n + m ≤ maxLen) (hbytes : (n + m) * bytes ≤ 140737488355328) (hbase : base ≤ w.heap.size)
    (h : ∀ v' w', w'.ownsRow base e 1 v' (n + m) (xs ++ news) → w.grownBy w' v.ownBlock → wpList P ops Q rest (a.put o.dst v') w') : wpList P ops Q (o :: rest) a w := by
  obtain ⟨v', w', hrun, h2, h3, _, _⟩ := run_append_own_at (P := P) w base t o.type e i z 1 bytes ht hi hz hsize hby hzs (by omega) v n xs hown ad m c news (by omega) hnews h1 h63 hbytes hbase
  refine wpList_plain hgd fun K hK => ?_
  unfold Oper.wp execOp
  simp only [ho, resolve, invoke, builtin, Sem.run_bind, Sem.run_pure, Result.andThen_ok, List.map_toArray, List.map_cons, List.map_nil, hs, hx, hrun]
  exact hK _ _ (h v' w' h2 h3)
end
theorem addr_add3 (b k j : Nat) : (⟨b, k, none⟩ : Addr).add j = ⟨b, k + j, none⟩ := by unfold Addr.add; split <;> simp_all
theorem own_set {w : World} {base n g cap : Nat} {e : TypeId} {xs : List Value} (h : w.ownsRow base e 1 (.slice (some ⟨g, 0, none⟩) n cap) n xs) (k : Nat) (u : Value) :
    (w.setCell ⟨g, k, none⟩ u).ownsRow base e 1 (.slice (some ⟨g, 0, none⟩) n cap) n (xs.set k u) := by
  refine ⟨by rw [List.length_set]; exact h.1, ?_⟩
  rcases h.2 with ⟨e, _⟩ | ⟨g', cap', cur, e, hg, hc, h1, h2, h3, ht⟩
  · cases e
  · cases e
    refine .inr ⟨g, cap, cur.setIfInBounds k u, rfl, hg, by simp [World.setCell, Array.getElem?_modify, hc], h1, h2, by simpa using h3, ?_⟩
    rw [Array.toList_setIfInBounds, List.take_set, ht]
theorem own_cell {w : World} {base n g cap : Nat} {e : TypeId} {zs : List Int} (h : w.ownsRow base e 1 (.slice (some ⟨g, 0, none⟩) n cap) n (zs.map (Value.int .i64))) : (∀ j, j < n → w.cell? ⟨g, j, none⟩ = some (.int .i64 (zs[j]?.getD 0))) ∧ (∀ j, w.frozen? ⟨g, j, none⟩ = false) ∧ g < w.heap.size := by
  refine ⟨(own_cells h).2, fun j => ?_, own_lt' h g rfl⟩
  rcases h.2 with ⟨e, _⟩ | ⟨g', cap', cur, e, hg, hc, _⟩
  · cases e
  · cases e
    exact frozen_of_row _ _ j _ _ hc
theorem own_some {w : World} {base n : Nat} {e : TypeId} {v : Value} {xs : List Value} (h : w.ownsRow base e 1 v n xs) (hn : 0 < n) : ∃ g cap, v = .slice (some ⟨g, 0, none⟩) n cap := by
  rcases h.2 with ⟨_, e⟩ | ⟨g, cap, cur, e, _⟩
  · omega
  · exact ⟨g, cap, e⟩

/-- What reading two lists gives. -/
def Reads2 (zs ys : List Int) (n m : Nat) (w : World) (e : Ending) (w' : World) : Prop :=
  Below w.heap.size w w' ∧ ((vo zs = true ∧ vo ys = true ∧ ∃ b b', e = .returned (.tuple #[.slice (some ⟨b, 0, none⟩) n n, .slice (some ⟨b', 0, none⟩) m m, .bool true]) ∧ Arr w' b 46 zs ∧ Arr w' b' 46 ys) ∨
    ((vo zs && vo ys) = false ∧ ∃ A k A' k', e = .returned (.tuple #[.slice A k k, .slice A' k' k', .bool false])))
end Go.Proofs.Ytcadmjpkgnbodaa

/- Lattices: as both sides tell them. No program. -/
namespace Go.Proofs.Ytcadmjpkgnbodaa

def JoinsOk (ds : List Int) : Prop := ∀ a, a < ds.length → ∀ b, b < ds.length → 0 ≤ joinI ds a b
instance (ds : List Int) : Decidable (JoinsOk ds) := by unfold JoinsOk; exact inferInstance
def latB (zs : List Int) : Bool := decide (0 < zs.length) && (decide (JoinsOk zs) && decide (JoinsOk (du zs)))
def latR (zs : List Int) : Bool := vo zs && latB zs
theorem join_self {ds : List Int} {a : Nat} (ha : a < ds.length) : 0 ≤ joinI ds a a := by
  rcases jnI_cases (zs := ds) (s := upR ds a a) with ⟨_, h⟩ | ⟨c, e, _⟩
  · exfalso
    have h1 := h a ha
    have h2 : jnB ds (upR ds a a) a = true := by
      unfold jnB
      have e1 : bitB (upR ds a a) a = true := by
        unfold upR
        rw [bitB_and, atUp_bit]
        simp
      have e2 : lessI (upR ds a a) (atUp ds a) = 0 := lessI_none.2 fun j hj => by
        unfold upR at hj
        rw [bitB_and, Bool.and_eq_true] at hj
        exact hj.1
      rw [e1, e2]
      rfl
    rw [h2] at h1
    cases h1
  · show 0 ≤ jnI ds (upR ds a a)
    omega
theorem joins_half {ds : List Int} (h : ∀ a, a < ds.length → ∀ b, b < a → 0 ≤ joinI ds a b) : JoinsOk ds := fun a ha b hb => by
  rcases Nat.lt_trichotomy b a with h1 | h1 | h1
  · exact h a ha b h1
  · subst h1; exact join_self hb
  · rw [join_swap]; exact h b hb a h1
theorem lattice_not {zs ds : List Int} {a b : Nat} (hd : ds = zs ∨ ds = du zs) (ha : a < zs.length) (hb : b < zs.length) (h : joinI ds a b < 0) : latB zs = false := by
  have hn : ¬ JoinsOk ds := fun hok => by
    have := hok a (by rcases hd with e | e <;> rw [e] <;> first | exact ha | (rw [du_len]; exact ha)) b (by rcases hd with e | e <;> rw [e] <;> first | exact hb | (rw [du_len]; exact hb))
    omega
  unfold latB
  rcases hd with e | e <;> subst e
  · rw [decide_eq_false hn]; simp
  · rw [decide_eq_false hn]; simp
theorem lattice_is {zs : List Int} (h1 : JoinsOk zs) (h2 : JoinsOk (du zs)) : latB zs = decide (0 < zs.length) := by
  unfold latB
  rw [decide_eq_true h1, decide_eq_true h2]
  simp
end Go.Proofs.Ytcadmjpkgnbodaa

/- Cuts of a lattice: they are as many as items. No program. -/
namespace Go.Proofs.Ytcadmjpkgnbodaa

/-- The join of two items, as what is at or above both. -/
theorem join_char {ds : List Int} (h : VoP ds) (hj : JoinsOk ds) {a b : Nat} (ha : a < ds.length) (hb : b < ds.length) :
    ∃ c : Nat, c < ds.length ∧ ∀ i : Nat, (bitB (atUp ds a) i = true ∧ bitB (atUp ds b) i = true) ↔ bitB (atUp ds c) i = true := by
  have h0 := hj a ha b hb
  rcases jnI_cases (zs := ds) (s := upR ds a b) with ⟨e, _⟩ | ⟨c, e, hc, hb2⟩
  · exfalso
    have : joinI ds a b = -1 := e
    omega
  · unfold jnB at hb2
    rw [Bool.and_eq_true, beq_iff_eq] at hb2
    refine ⟨c, hc, fun i => ⟨fun hi => ?_, fun hi => ?_⟩⟩
    · refine lessI_none.1 hb2.2 i ?_
      unfold upR
      rw [bitB_and, Bool.and_eq_true]
      exact hi
    · have h1 := hb2.1
      unfold upR at h1
      rw [bitB_and, Bool.and_eq_true] at h1
      exact ⟨at_trans h h1.1 hi, at_trans h h1.2 hi⟩
/-- What is at or above all of a set is what is at or above one item, if the set is not empty. -/
theorem joins_char {ds : List Int} (h : VoP ds) (hj : JoinsOk ds) (t : Int) : ∀ k : Nat, k ≤ ds.length → (∀ a : Nat, a < k → bitB t a = false) ∨
    ∃ c : Nat, c < ds.length ∧ ∀ i : Nat, (∀ a : Nat, a < k → bitB t a = true → bitB (atUp ds a) i = true) ↔ bitB (atUp ds c) i = true
  | 0, _ => .inl fun a ha => by omega
  | k + 1, hk => by
    have ih := joins_char h hj t k (by omega)
    cases hb : bitB t (k : Int)
    · rcases ih with ih | ⟨c, hc, ih⟩
      · refine .inl fun a ha => ?_
        by_cases e : a = k
        · subst e; exact hb
        · exact ih a (by omega)
      · refine .inr ⟨c, hc, fun i => ?_⟩
        rw [← ih i]
        refine ⟨fun g a ha hs => g a (by omega) hs, fun g a ha hs => ?_⟩
        by_cases e : a = k
        · subst e; rw [hb] at hs; cases hs
        · exact g a (by omega) hs
    · rcases ih with ih | ⟨c, hc, ih⟩
      · refine .inr ⟨k, by omega, fun i => ⟨fun g => g k (by omega) hb, fun g a ha hs => ?_⟩⟩
        by_cases e : a = k
        · subst e; exact g
        · rw [ih a (by omega)] at hs; cases hs
      · obtain ⟨d, hd, hdc⟩ := join_char h hj hc (show k < ds.length by omega)
        refine .inr ⟨d, hd, fun i => ?_⟩
        rw [← hdc i, ← ih i]
        refine ⟨fun g => ⟨fun a ha hs => g a (by omega) hs, g k (by omega) hb⟩, fun g a ha hs => ?_⟩
        by_cases e : a = k
        · subst e; exact g.2
        · exact g.1 a (by omega) hs
/-- One item at or above all. -/
theorem lat_top {ds : List Int} (h : VoP ds) (hn : 0 < ds.length) (hj : JoinsOk ds) : ∃ c : Nat, c < ds.length ∧ ∀ a : Nat, a < ds.length → bitB (atUp ds a) c = true := by
  rcases joins_char h hj (powI ds.length - 1) ds.length (Nat.le_refl _) with g | ⟨c, hc, g⟩
  · have := g 0 hn
    rw [all_bits', decide_eq_false_iff_not] at this
    exact absurd hn this
  · exact ⟨c, hc, fun a ha => (g c).2 (at_self _ _) a ha (by rw [all_bits', decide_eq_true_eq]; exact ha)⟩
theorem latB_parts {zs : List Int} (h : latB zs = true) : 0 < zs.length ∧ JoinsOk zs ∧ JoinsOk (du zs) := by
  unfold latB at h
  rw [Bool.and_eq_true, Bool.and_eq_true, decide_eq_true_eq, decide_eq_true_eq, decide_eq_true_eq] at h
  exact h
theorem lat_du {zs : List Int} (h : VoP zs) (hl : latB zs = true) : latR (du zs) = true := by
  obtain ⟨h1, h2, h3⟩ := latB_parts hl
  unfold latR
  rw [vo_true (du_vo h), lattice_is h3 (by rw [du_du h]; exact h2), du_len, decide_eq_true h1]
  rfl
/-- Each cut of a lattice is what is at or below an item. -/
theorem cut_lat {zs : List Int} (h : VoP zs) (hl : latB zs = true) {s : Int} (hs : s ∈ cutsR zs) : ∃ c : Nat, c < zs.length ∧ s = atUp (du zs) c := by
  obtain ⟨h1, h2, h3⟩ := latB_parts hl
  obtain ⟨s0, s1, hc⟩ := (mem_cuts h).1 hs
  have hsb : ∀ i : Nat, bitB s i = true ↔ i < zs.length ∧ ∀ a : Nat, a < zs.length → bitB (comTo zs s zs.length) a = true → bitB (atUp (du zs) a) i = true := fun i => by
    unfold cutB at hc
    rw [beq_iff_eq] at hc
    have e : comTo (du zs) (comTo zs s zs.length) zs.length = s := hc
    have g := comTo_bit (du zs) (comTo zs s zs.length) i zs.length
    rw [e, du_len] at g
    exact g
  rcases joins_char (du_vo h) h3 (comTo zs s zs.length) zs.length (by rw [du_len]; exact Nat.le_refl _) with g | ⟨c, hc2, g⟩
  · exfalso
    obtain ⟨c, hc3, ht⟩ := lat_top h h1 h2
    have := g c hc3
    rw [Bool.eq_false_iff] at this
    exact this ((comTo_bit _ _ _ _).2 ⟨hc3, fun a ha _ => ht a ha⟩)
  · rw [du_len] at hc2
    have hb := atUp_bd (du_sets h.sets) (a := c) (by rw [du_len]; exact hc2)
    refine ⟨c, hc2, bitB_ext s0 hb.1 fun i => ?_⟩
    rw [Bool.eq_iff_iff, hsb i]
    refine ⟨fun k => (g i).1 k.2, fun k => ⟨?_, (g i).2 k⟩⟩
    rw [at_du h.sets, atUp_bit, Bool.or_eq_true, decide_eq_true_eq] at k
    rcases k with k | k
    · exact bit_none k
    · omega
theorem cuts_lat {zs : List Int} (h : VoP zs) (hl : latB zs = true) : (cutsR zs).length = zs.length := by
  have h1 := cuts_many h
  have h2 := inj_len (fun s : Int => s) (cutsR zs) ((List.range zs.length).map fun c => atUp (du zs) c) (cuts_nodup zs) (fun s hs => by
    obtain ⟨c, hc, e⟩ := cut_lat h hl hs
    exact List.mem_map.2 ⟨c, by simpa using hc, e.symm⟩) (fun s _ t _ e => e)
  rw [List.length_map, List.length_range] at h2
  omega
end Go.Proofs.Ytcadmjpkgnbodaa

/- Even lattices: as both sides tell them. No program. -/
namespace Go.Proofs.Ytcadmjpkgnbodaa

def goesOver (zs : List Int) (a b c : Nat) : Bool := joinI (du zs) a (joinI zs b c).toNat == joinI zs (joinI (du zs) a b).toNat (joinI (du zs) a c).toNat
def EvenAll (zs : List Int) : Prop := ∀ a, a < zs.length → ∀ b, b < zs.length → ∀ c, c < zs.length → goesOver zs a b c = true
instance (zs : List Int) : Decidable (EvenAll zs) := by unfold EvenAll; exact inferInstance
def evenR (zs : List Int) : Bool := latR zs && decide (EvenAll zs)
theorem joins_at {ds : List Int} {n : Nat} (h : JoinsOk ds) (hl : ds.length = n) {a b : Nat} (ha : a < n) (hb : b < n) : ∃ j : Nat, joinI ds a b = j ∧ j < n := by
  have h1 := h a (by omega) b (by omega)
  have h2 := joinI_bd ds a b
  exact ⟨(joinI ds a b).toNat, by omega, by omega⟩
theorem lat_parts {zs : List Int} (h : latR zs = true) : VoP zs ∧ 0 < zs.length ∧ JoinsOk zs ∧ JoinsOk (du zs) := by
  unfold latR latB at h
  rw [Bool.and_eq_true, Bool.and_eq_true, Bool.and_eq_true, decide_eq_true_eq, decide_eq_true_eq, decide_eq_true_eq] at h
  exact ⟨by simpa [vo] using h.1, h.2.1, h.2.2.1, h.2.2.2⟩
end Go.Proofs.Ytcadmjpkgnbodaa

/- Ideals within a set are as many as ciN tells. No program. -/
namespace Go.Proofs.Ytcadmjpkgnbodaa

theorem bit_nat {x : Int} (_hx : 0 ≤ x) (j : Nat) : bitB x (j : Int) = x.toNat.testBit j := by simp [bitB]
theorem lessN_bit (s : Nat) (z : Int) (j : Nat) : (lessN s z).testBit j = ((s.testBit j && !decide (low s = j)) && !bitB z j) := by
  unfold lessN
  rw [← bit_nat (lessI_bd _ _).1, bitB_less, bitB_less, bitB_pow, bit_cast]
/-- An ideal within a set. -/
def IdP (zs : List Int) (s t : Nat) : Prop := (∀ j, t.testBit j = true → s.testBit j = true) ∧ ∀ a b : Nat, t.testBit b = true → s.testBit a = true → bitB (zs[a]?.getD 0) b = true → t.testBit a = true
open Classical in
noncomputable def ids (zs : List Int) (s : Nat) : List Nat := (List.range 64).filter fun t => decide (IdP zs s t)
theorem mem_ids {zs : List Int} {s t : Nat} : t ∈ ids zs s ↔ t < 64 ∧ IdP zs s t := by simp [ids]
theorem ids_nodup (zs : List Int) (s : Nat) : (ids zs s).Nodup := List.nodup_range.filter _
theorem idP_lt {zs : List Int} {s t : Nat} (h : IdP zs s t) (hs : s < 64) : t < 64 := Nat.lt_pow_two_of_testBit (n := 6) _ fun i hi => by
  cases e : t.testBit i
  · rfl
  · have := bit_lt (n := 6) hs (h.1 i e); omega
theorem ids_zero (zs : List Int) : (ids zs 0).length = 1 := by
  have h1 := inj_len (fun t : Nat => t) (ids zs 0) [0] (ids_nodup _ _) (fun t ht => by
    have := (mem_ids.1 ht).2.1
    have : t = 0 := Nat.eq_of_testBit_eq fun j => by
      cases e : t.testBit j
      · simp
      · have := this j e; simp at this
    simp [this]) (fun _ _ _ _ e => e)
  have h2 := inj_len (fun t : Nat => t) [0] (ids zs 0) (by simp) (fun t ht => by
    obtain rfl : t = 0 := by simpa using ht
    exact mem_ids.2 ⟨by omega, fun j hj => hj, fun a b hb => by simp at hb⟩) (fun _ _ _ _ e => e)
  simp at h1 h2
  omega
theorem ids_split {zs : List Int} (h : VoP zs) {s a u d : Nat} (hs : s < 64) (hb : s.testBit a = true)
    (hu : ∀ j, u.testBit j = ((s.testBit j && !decide (a = j)) && !bitB (zs[a]?.getD 0) j)) (hd : ∀ j, d.testBit j = ((s.testBit j && !decide (a = j)) && !bitB (zs[j]?.getD 0) a)) :
    (ids zs s).length = (ids zs u).length + (ids zs d).length := by
  have hu1 : ∀ j, u.testBit j = true ↔ s.testBit j = true ∧ a ≠ j ∧ bitB (zs[a]?.getD 0) j = false := fun j => by rw [hu]; simp [and_assoc]
  have hd1 : ∀ j, d.testBit j = true ↔ s.testBit j = true ∧ a ≠ j ∧ bitB (zs[j]?.getD 0) a = false := fun j => by rw [hd]; simp [and_assoc]
  have hlen : ((ids zs u).map (Sum.inl (β := Nat)) ++ (ids zs d).map (Sum.inr (α := Nat))).length = (ids zs u).length + (ids zs d).length := by simp
  have tr : ∀ {x y z : Nat}, bitB (zs[x]?.getD 0) y = true → bitB (zs[y]?.getD 0) z = true → bitB (zs[x]?.getD 0) z = true := fun h1 h2 => (h.trans ⟨bit_none h1, h1⟩ ⟨bit_none h2, h2⟩).2
  have hin : ∀ t, IdP zs s t → t.testBit a = true → ∀ j, t.testBit j = true ↔ ((t &&& d).testBit j = true ∨ (s.testBit j = true ∧ d.testBit j = false)) := fun t ht ha j => by
    rw [Nat.testBit_and, Bool.and_eq_true]
    constructor
    · intro e
      cases e2 : d.testBit j
      · exact .inr ⟨ht.1 j e, rfl⟩
      · exact .inl ⟨e, rfl⟩
    · rintro (e | ⟨e1, e2⟩)
      · exact e.1
      · rw [hd, e1, Bool.true_and] at e2
        by_cases e3 : a = j
        · subst e3; exact ha
        · cases e4 : bitB (zs[j]?.getD 0) a
          · rw [e4] at e2; simp [e3] at e2
          · exact ht.2 j a ha e1 e4
  have h1 := inj_len (fun t : Nat => if t.testBit a then (Sum.inr (t &&& d) : Nat ⊕ Nat) else Sum.inl t) (ids zs s) ((ids zs u).map (Sum.inl (β := Nat)) ++ (ids zs d).map (Sum.inr (α := Nat))) (ids_nodup _ _) (fun t ht => by
    obtain ⟨t6, ht⟩ := mem_ids.1 ht
    rw [List.mem_append]
    cases e : t.testBit a
    · refine .inl ?_
      simp only [Bool.false_eq_true, if_false]
      refine List.mem_map_of_mem (mem_ids.2 ⟨t6, fun j hj => (hu1 j).2 ⟨ht.1 j hj, fun e2 => (by subst e2; rw [e] at hj; cases hj), ?_⟩, fun x y hy hx hz => ht.2 x y hy ((hu1 x).1 hx).1 hz⟩)
      cases e2 : bitB (zs[a]?.getD 0) j
      · rfl
      · rw [ht.2 a j hj hb e2] at e; cases e
    · refine .inr ?_
      simp only [if_true]
      refine List.mem_map_of_mem (mem_ids.2 ⟨Nat.lt_of_le_of_lt Nat.and_le_left t6, fun j hj => ?_, fun x y hy hx hz => ?_⟩)
      · rw [Nat.testBit_and, Bool.and_eq_true] at hj; exact hj.2
      · rw [Nat.testBit_and, Bool.and_eq_true] at hy ⊢
        exact ⟨ht.2 x y hy.1 ((hd1 x).1 hx).1 hz, hx⟩) (fun t ht t2 ht2 e => by
    obtain ⟨-, ht⟩ := mem_ids.1 ht
    obtain ⟨-, ht2⟩ := mem_ids.1 ht2
    cases e1 : t.testBit a <;> cases e2 : t2.testBit a <;> simp [e1, e2] at e
    · exact e
    · refine Nat.eq_of_testBit_eq fun j => ?_
      rw [Bool.eq_iff_iff, hin t ht e1 j, hin t2 ht2 e2 j, e])
  have h2 := inj_len (fun x : Nat ⊕ Nat => match x with | .inl t => t | .inr t => t ||| (s ^^^ d)) ((ids zs u).map (Sum.inl (β := Nat)) ++ (ids zs d).map (Sum.inr (α := Nat))) (ids zs s) (by
      rw [List.nodup_append]
      refine ⟨?_, ?_, ?_⟩
      · exact List.Pairwise.map _ (fun x y hxy e => hxy (Sum.inl.inj e)) (ids_nodup zs u)
      · exact List.Pairwise.map _ (fun x y hxy e => hxy (Sum.inr.inj e)) (ids_nodup zs d)
      · intro x hx y hy e
        obtain ⟨t, -, rfl⟩ := List.mem_map.1 hx
        obtain ⟨t2, -, rfl⟩ := List.mem_map.1 hy
        cases e) (fun x hx => by
    rw [List.mem_append] at hx
    rcases hx with hx | hx
    · obtain ⟨t, ht, rfl⟩ := List.mem_map.1 hx
      obtain ⟨t6, ht⟩ := mem_ids.1 ht
      refine mem_ids.2 ⟨t6, fun j hj => ((hu1 j).1 (ht.1 j hj)).1, fun x y hy hx hz => ht.2 x y hy ((hu1 x).2 ⟨hx, fun e => ?_, ?_⟩) hz⟩
      · subst e
        have := ((hu1 y).1 (ht.1 y hy)).2.2
        rw [hz] at this; cases this
      · cases e : bitB (zs[a]?.getD 0) x
        · rfl
        · have := ((hu1 y).1 (ht.1 y hy)).2.2
          rw [tr e hz] at this; cases this
    · obtain ⟨t, ht, rfl⟩ := List.mem_map.1 hx
      obtain ⟨t6, ht⟩ := mem_ids.1 ht
      have hg : ∀ j, (t ||| (s ^^^ d)).testBit j = true ↔ t.testBit j = true ∨ (s.testBit j = true ∧ d.testBit j = false) := fun j => by
        rw [Nat.testBit_or, Nat.testBit_xor, Bool.or_eq_true]
        have := hd1 j
        cases e1 : s.testBit j <;> cases e2 : d.testBit j <;> simp_all
      have hp : IdP zs s (t ||| (s ^^^ d)) := by
        refine ⟨fun j hj => ?_, fun x y hy hx hz => ?_⟩
        · rcases (hg j).1 hj with e | e
          · exact ((hd1 j).1 (ht.1 j e)).1
          · exact e.1
        · refine (hg x).2 ?_
          cases e : d.testBit x
          · exact .inr ⟨hx, rfl⟩
          · refine .inl ?_
            rcases (hg y).1 hy with e2 | ⟨e2, e3⟩
            · exact ht.2 x y e2 e hz
            · exfalso
              have hx1 := (hd1 x).1 e
              rw [hd, e2, Bool.true_and] at e3
              by_cases e4 : a = y
              · subst e4; rw [hx1.2.2] at hz; cases hz
              · cases e5 : bitB (zs[y]?.getD 0) a
                · rw [e5] at e3; simp [e4] at e3
                · rw [tr hz e5] at hx1; cases hx1.2.2
      exact mem_ids.2 ⟨idP_lt hp hs, hp⟩) (fun x hx y hy e => by
    rw [List.mem_append] at hx hy
    have hg : ∀ t j, (t ||| (s ^^^ d)).testBit j = true ↔ t.testBit j = true ∨ (s.testBit j = true ∧ d.testBit j = false) := fun t j => by
      rw [Nat.testBit_or, Nat.testBit_xor, Bool.or_eq_true]
      have := hd1 j
      cases e1 : s.testBit j <;> cases e2 : d.testBit j <;> simp_all
    have hda : d.testBit a = false := by rw [hd]; simp
    rcases hx with hx | hx
    · obtain ⟨t, ht, rfl⟩ := List.mem_map.1 hx
      rcases hy with hy | hy
      · obtain ⟨t2, ht2, rfl⟩ := List.mem_map.1 hy
        exact congrArg _ e
      · exfalso
        obtain ⟨t2, ht2, rfl⟩ := List.mem_map.1 hy
        have e : t = t2 ||| (s ^^^ d) := e
        have h3 := (hg t2 a).2 (.inr ⟨hb, hda⟩)
        rw [← e] at h3
        exact ((hu1 a).1 ((mem_ids.1 ht).2.1 a h3)).2.1 rfl
    · obtain ⟨t, ht, rfl⟩ := List.mem_map.1 hx
      rcases hy with hy | hy
      · exfalso
        obtain ⟨t2, ht2, rfl⟩ := List.mem_map.1 hy
        have e : t ||| (s ^^^ d) = t2 := e
        have h3 := (hg t a).2 (.inr ⟨hb, hda⟩)
        rw [e] at h3
        exact ((hu1 a).1 ((mem_ids.1 ht2).2.1 a h3)).2.1 rfl
      · obtain ⟨t2, ht2, rfl⟩ := List.mem_map.1 hy
        have e : t ||| (s ^^^ d) = t2 ||| (s ^^^ d) := e
        refine congrArg _ (Nat.eq_of_testBit_eq fun j => ?_)
        rw [Bool.eq_iff_iff]
        have k1 := hg t j
        have k2 := hg t2 j
        rw [e] at k1
        constructor
        · intro e1
          rcases k2.1 (k1.2 (.inl e1)) with e3 | e3
          · exact e3
          · rw [(mem_ids.1 ht).2.1 j e1] at e3; cases e3.2
        · intro e1
          rcases k1.1 (k2.2 (.inl e1)) with e3 | e3
          · exact e3
          · rw [(mem_ids.1 ht2).2.1 j e1] at e3; cases e3.2)
  omega
theorem ciN_ids {zs : List Int} (h : VoP zs) : ∀ (k s : Nat), s ≤ k → s < 64 → ciN zs s = (ids zs s).length
  | 0, s, hk, _ => by
    obtain rfl : s = 0 := by omega
    rw [ciN_zero, ids_zero]
  | k + 1, s, hk, h1 => by
    by_cases h0 : s = 0
    · subst h0; rw [ciN_zero, ids_zero]
    · have hu := lessN_lt (zs[low s]?.getD 0) h0 h1
      have hd := lessN_lt ((du zs)[low s]?.getD 0) h0 h1
      rw [ciN_pos h0 h1, ciN_ids h k _ (by omega) (by omega), ciN_ids h k _ (by omega) (by omega)]
      refine (ids_split h h1 (low_fin ⟨s, h1⟩ h0).2 (fun j => lessN_bit s _ j) (fun j => ?_)).symm
      rw [lessN_bit, du_bit h.sets]
/-- All ideals of an order are as many as the program and the model count. -/
theorem ideals_ci {zs : List Int} (h : VoP zs) : (idealsR zs).length = ciN zs (2 ^ zs.length - 1) := by
  have h64 : (2 : Nat) ^ zs.length ≤ 64 := Nat.pow_le_pow_right (n := 2) (by decide) h.1
  rw [ciN_ids h 64 _ (by omega) (by omega)]
  have hm : ∀ t : Nat, t ∈ ids zs (2 ^ zs.length - 1) ↔ (t : Int) ∈ idealsR zs := fun t => by
    rw [mem_ids]
    unfold idealsR
    rw [vo_true h, if_pos rfl, setsTo_mem]
    constructor
    · rintro ⟨-, h1, h2⟩
      have hlt : t < 2 ^ zs.length := Nat.lt_pow_two_of_testBit _ fun i hi => by
        cases e : t.testBit i
        · rfl
        · have := h1 i e
          rw [Nat.testBit_two_pow_sub_one, decide_eq_true_eq] at this; omega
      refine ⟨t, hlt, (idB_iff h.sets (by omega) (by rw [pow_cast]; omega)).2 fun a b hb hz => ?_, rfl⟩
      rw [bit_cast] at hb ⊢
      exact h2 a b hb (by rw [Nat.testBit_two_pow_sub_one, decide_eq_true_eq]; exact bit_none hz) hz
    · rintro ⟨j, hj, hi, e⟩
      obtain rfl : j = t := by omega
      refine ⟨by omega, fun i hi2 => ?_, fun a b hb _ hz => ?_⟩
      · rw [Nat.testBit_two_pow_sub_one, decide_eq_true_eq]; exact bit_lt hj hi2
      · have := (idB_iff h.sets (by omega) (by rw [pow_cast]; omega)).1 hi a b (by rw [bit_cast]; exact hb) hz
        rwa [bit_cast] at this
  have hnd : (idealsR zs).Nodup := by
    unfold idealsR
    split
    · exact setsTo_nodup _ _
    · exact List.nodup_nil
  have h1 := inj_len (fun t : Nat => (t : Int)) (ids zs (2 ^ zs.length - 1)) (idealsR zs) (ids_nodup _ _) (fun t ht => (hm t).1 ht) (fun _ _ _ _ e => by omega)
  have h2 := inj_len (fun t : Int => t.toNat) (idealsR zs) (ids zs (2 ^ zs.length - 1)) hnd (fun t ht => by
    refine (hm t.toNat).2 ?_
    have h0 : 0 ≤ t := by
      unfold idealsR at ht
      rw [vo_true h, if_pos rfl, setsTo_mem] at ht
      obtain ⟨j, -, -, e⟩ := ht; omega
    rwa [Int.toNat_of_nonneg h0]) (fun x hx y hy e => by
    unfold idealsR at hx hy
    rw [vo_true h, if_pos rfl, setsTo_mem] at hx hy
    obtain ⟨j, -, -, e1⟩ := hx
    obtain ⟨j2, -, -, e2⟩ := hy
    omega)
  omega
end Go.Proofs.Ytcadmjpkgnbodaa

/- Even lattices are the ideals of their singles (mathematics). No program. -/
namespace Go.Proofs.Ytcadmjpkgnbodaa
set_option linter.unusedSectionVars false

theorem pop_one_fin : ∀ s : Fin 64, popI (s.val : Int) = 1 → ∀ a b : Fin 6, s.val.testBit a.val = true → s.val.testBit b.val = true → a = b := by decide +kernel
theorem pop_one {s : Int} (h0 : 0 ≤ s) (h1 : s < 64) (hp : popI s = 1) {a b : Nat} (ha : bitB s a = true) (hb : bitB s b = true) : a = b := by
  obtain ⟨s, rfl⟩ := Int.eq_ofNat_of_zero_le h0
  rw [bit_cast] at ha hb
  have h6 : s < 2 ^ 6 := by omega
  have := pop_one_fin ⟨s, h6⟩ hp ⟨a, bit_lt h6 ha⟩ ⟨b, bit_lt h6 hb⟩ ha hb
  exact congrArg Fin.val this
theorem pop_two_fin : ∀ s : Fin 64, popI (s.val : Int) ≠ 1 → s.val = 0 ∨ ∃ a b : Fin 6, a ≠ b ∧ s.val.testBit a.val = true ∧ s.val.testBit b.val = true := by decide +kernel
theorem pop_two {s : Int} (h0 : 0 ≤ s) (h1 : s < 64) (hp : popI s ≠ 1) : s = 0 ∨ ∃ a b : Nat, a ≠ b ∧ bitB s a = true ∧ bitB s b = true := by
  obtain ⟨s, rfl⟩ := Int.eq_ofNat_of_zero_le h0
  have h6 : s < 2 ^ 6 := by omega
  rcases pop_two_fin ⟨s, h6⟩ hp with e | ⟨a, b, hab, ha, hb⟩
  · left; exact congrArg _ e
  · refine .inr ⟨a.val, b.val, fun e => hab (Fin.ext e), ?_, ?_⟩
    · rw [bit_cast]; exact ha
    · rw [bit_cast]; exact hb
section
variable {zs : List Int} (h : VoP zs)
include h
theorem lt_at {a b : Nat} (hl : bitB (zs[a]?.getD 0) b = true) : bitB (atUp zs a) b = true := by rw [atUp_bit, hl]; rfl
theorem tops_small (a : Nat) : 0 ≤ topsTo zs ((du zs)[a]?.getD 0) zs.length ∧ topsTo zs ((du zs)[a]?.getD 0) zs.length < 64 := by
  have h1 := topsTo_bd zs ((du zs)[a]?.getD 0) zs.length
  have h2 := powI_le6 (n := (zs.length : Int)) (by have := h.1; omega)
  omega
/-- All below a single are at or below one item, which is below it. -/
theorem single_low {j : Nat} (hj : j < zs.length) (hs : snB zs j = true) : ∃ c : Nat, bitB (zs[c]?.getD 0) j = true ∧ ∀ x : Nat, bitB (zs[x]?.getD 0) j = true → bitB (atUp zs x) c = true := by
  unfold snB at hs
  rw [beq_iff_eq] at hs
  have hb := tops_small h j
  have hd1 : (du zs)[j]?.getD 0 < powI zs.length := by
    have := ((du_sets h.sets).2 j (by rw [du_len]; exact hj)).2
    rwa [du_len] at this
  have hex : ∃ c : Nat, bitB (topsTo zs ((du zs)[j]?.getD 0) zs.length) c = true := by
    refine Classical.byContradiction fun hn => ?_
    have : topsTo zs ((du zs)[j]?.getD 0) zs.length = 0 := bitB_ext hb.1 (by omega) fun i => by
      rw [bitB_zero]
      cases e : bitB (topsTo zs ((du zs)[j]?.getD 0) zs.length) i
      · rfl
      · exact absurd ⟨i, e⟩ hn
    rw [this] at hs
    exact absurd hs (by decide)
  obtain ⟨c, hc⟩ := hex
  refine ⟨c, by have := ((topsTo_bit c _).1 hc).2.1; rwa [du_bit h.sets] at this, fun x hx => ?_⟩
  obtain ⟨t, ht, e⟩ := top_over h hd1 _ x (Nat.le_refl _) (by rw [du_bit h.sets]; exact hx)
  obtain rfl := pop_one hb.1 hb.2 hs hc ht
  rcases e with rfl | e
  · exact at_self _ _
  · exact lt_at h e.2
/-- An item is told by the singles at or below it. -/
theorem singles_le (hn : 0 < zs.length) (h2 : JoinsOk zs) (h3 : JoinsOk (du zs)) : ∀ (m a b : Nat), rank zs a ≤ m → a < zs.length → b < zs.length →
    (∀ j : Nat, j < zs.length → snB zs j = true → bitB (atUp zs j) a = true → bitB (atUp zs j) b = true) → bitB (atUp zs a) b = true := fun m => by
  induction m using Nat.strongRecOn with
  | ind m ih =>
    intro a b hm ha hb hsub
    cases hs : snB zs a
    · have hbd := tops_small h a
      have hd1 : (du zs)[a]?.getD 0 < powI zs.length := by
        have := ((du_sets h.sets).2 a (by rw [du_len]; exact ha)).2
        rwa [du_len] at this
      have hlow : ∀ c : Nat, bitB (zs[c]?.getD 0) a = true → bitB (atUp zs c) b = true := fun c hc => by
        have hr := rank_lt h ⟨bit_none hc, hc⟩
        exact ih (rank zs c) (by omega) c b (Nat.le_refl _) (bit_none hc) hb fun j hj hsj hjc => hsub j hj hsj (at_trans h hjc (lt_at h hc))
      rcases pop_two hbd.1 hbd.2 (by unfold snB at hs; rw [beq_eq_false_iff_ne] at hs; exact hs) with e | ⟨c1, c2, hne, hc1, hc2⟩
      · obtain ⟨c, hc, hbot⟩ := lat_top (du_vo h) (by rw [du_len]; exact hn) h3
        rw [du_len] at hc hbot
        have hca := hbot a ha
        rw [at_du h.sets] at hca
        by_cases hca2 : c = a
        · subst hca2
          have := hbot b hb
          rwa [at_du h.sets] at this
        · exfalso
          have hlt := at_or hca (fun e => hca2 e.symm)
          obtain ⟨t, ht, -⟩ := top_over h hd1 _ c (Nat.le_refl _) (by rw [du_bit h.sets]; exact hlt)
          rw [e, bitB_zero] at ht
          cases ht
      · have t1 := (topsTo_bit c1 _).1 hc1
        have t2 := (topsTo_bit c2 _).1 hc2
        have l1 := t1.2.1
        have l2 := t2.2.1
        rw [du_bit h.sets] at l1 l2
        obtain ⟨v, hv, hch⟩ := join_char h h2 t1.1 t2.1
        have hva := (hch a).1 ⟨lt_at h l1, lt_at h l2⟩
        have hvb := (hch b).1 ⟨hlow c1 l1, hlow c2 l2⟩
        have hvv := (hch v).2 (at_self _ _)
        by_cases e : a = v
        · rw [e]; exact hvb
        · exfalso
          have hlt := at_or hva e
          have key : ∀ c : Nat, bitB (topsTo zs ((du zs)[a]?.getD 0) zs.length) c = true → bitB (atUp zs c) v = true → v = c := fun c hc hcv => by
            refine Classical.byContradiction fun hne2 => ?_
            have := andI_zero.1 ((topsTo_bit c _).1 hc).2.2 v (by rw [du_bit h.sets]; exact hlt)
            rw [at_or hcv hne2] at this
            cases this
          exact hne ((key c1 hc1 hvv.1).symm.trans (key c2 hc2 hvv.2))
    · exact hsub a ha hs (at_self _ _)
omit h in
/-- The join with its value. -/
theorem join_val {ds : List Int} (hd : VoP ds) (hj : JoinsOk ds) {a b : Nat} (ha : a < ds.length) (hb : b < ds.length) :
    ∃ c : Nat, joinI ds a b = (c : Int) ∧ c < ds.length ∧ ∀ i : Nat, (bitB (atUp ds a) i = true ∧ bitB (atUp ds b) i = true) ↔ bitB (atUp ds c) i = true := by
  have h0 := hj a ha b hb
  rcases jnI_cases (zs := ds) (s := upR ds a b) with ⟨e, _⟩ | ⟨c, e, hc, hb2⟩
  · exfalso
    have : joinI ds a b = -1 := e
    omega
  · unfold jnB at hb2
    rw [Bool.and_eq_true, beq_iff_eq] at hb2
    refine ⟨c, e, hc, fun i => ⟨fun hi => ?_, fun hi => ?_⟩⟩
    · refine lessI_none.1 hb2.2 i ?_
      unfold upR
      rw [bitB_and, Bool.and_eq_true]
      exact hi
    · have h1 := hb2.1
      unfold upR at h1
      rw [bitB_and, Bool.and_eq_true] at h1
      exact ⟨at_trans hd h1.1 hi, at_trans hd h1.2 hi⟩
/-- A single below a join is below one of the two. -/
theorem single_prime (h2 : JoinsOk zs) (h3 : JoinsOk (du zs)) (he : EvenAll zs) {j x y v : Nat} (hj : j < zs.length) (hs : snB zs j = true) (hx : x < zs.length) (hy : y < zs.length)
    (hv : joinI zs x y = (v : Int)) (hvn : v < zs.length) (hjv : bitB (atUp zs j) v = true) : bitB (atUp zs j) x = true ∨ bitB (atUp zs j) y = true := by
  have hl : (du zs).length = zs.length := du_len zs
  obtain ⟨p, ep, hp, cp⟩ := join_val (du_vo h) h3 (show j < (du zs).length by omega) (show x < (du zs).length by omega)
  obtain ⟨q, eq, hq, cq⟩ := join_val (du_vo h) h3 (show j < (du zs).length by omega) (show y < (du zs).length by omega)
  obtain ⟨m, em, hm, cm⟩ := join_val (du_vo h) h3 (show j < (du zs).length by omega) (show v < (du zs).length by omega)
  obtain ⟨r, er, hr, cr⟩ := join_val h h2 (show p < zs.length by omega) (show q < zs.length by omega)
  simp only [at_du h.sets] at cp cq cm
  have hg := he j hj x hx y hy
  unfold goesOver at hg
  rw [beq_iff_eq, hv, ep, eq, Int.toNat_natCast, Int.toNat_natCast, Int.toNat_natCast, em, er] at hg
  obtain rfl : m = r := by omega
  have hjm : j = m := at_asym h ((cm j).1 ⟨at_self _ _, hjv⟩) ((cm m).2 (at_self _ _)).1
  subst hjm
  refine Classical.byContradiction fun hn => ?_
  rw [not_or] at hn
  have p1 := (cp p).2 (at_self _ _)
  have q1 := (cq q).2 (at_self _ _)
  obtain ⟨c, hc, hall⟩ := single_low h hj hs
  have pj : j ≠ p := fun e => hn.1 (by have := p1.2; rwa [← e] at this)
  have qj : j ≠ q := fun e => hn.2 (by have := q1.2; rwa [← e] at this)
  have hjc := (cr c).1 ⟨hall p (at_or p1.1 pj), hall q (at_or q1.1 qj)⟩
  have := at_asym h hjc (lt_at h hc)
  subst this
  exact h.irr ⟨hj, hc⟩
theorem joins_prime (h2 : JoinsOk zs) (h3 : JoinsOk (du zs)) (he : EvenAll zs) (t : Nat) : ∀ k : Nat, k ≤ zs.length → (∀ a : Nat, a < k → t.testBit a = false) ∨
    ∃ c : Nat, c < zs.length ∧ (∀ a : Nat, a < k → t.testBit a = true → bitB (atUp zs a) c = true) ∧ ∀ j : Nat, j < zs.length → snB zs j = true → bitB (atUp zs j) c = true → ∃ a : Nat, a < k ∧ t.testBit a = true ∧ bitB (atUp zs j) a = true
  | 0, _ => .inl fun a ha => by omega
  | k + 1, hk => by
    have ih := joins_prime h2 h3 he t k (by omega)
    cases hb : t.testBit k
    · rcases ih with ih | ⟨c, hc, i1, i2⟩
      · refine .inl fun a ha => ?_
        by_cases e : a = k
        · subst e; exact hb
        · exact ih a (by omega)
      · refine .inr ⟨c, hc, fun a ha hs => ?_, fun j hj hs hjc => ?_⟩
        · by_cases e : a = k
          · subst e; rw [hb] at hs; cases hs
          · exact i1 a (by omega) hs
        · obtain ⟨a, ha, h5⟩ := i2 j hj hs hjc
          exact ⟨a, by omega, h5⟩
    · rcases ih with ih | ⟨c, hc, i1, i2⟩
      · refine .inr ⟨k, by omega, fun a ha hs => ?_, fun j hj hs hjc => ⟨k, by omega, hb, hjc⟩⟩
        by_cases e : a = k
        · subst e; exact at_self _ _
        · rw [ih a (by omega)] at hs; cases hs
      · obtain ⟨d, ed, hd, cd⟩ := join_val h h2 hc (show k < zs.length by omega)
        have hdd := (cd d).2 (at_self _ _)
        refine .inr ⟨d, hd, fun a ha hs => ?_, fun j hj hs hjd => ?_⟩
        · by_cases e : a = k
          · subst e; exact hdd.2
          · exact at_trans h (i1 a (by omega) hs) hdd.1
        · rcases single_prime h h2 h3 he hj hs hc (by omega) ed hd hjd with e | e
          · obtain ⟨a, ha, h5⟩ := i2 j hj hs e
            exact ⟨a, by omega, h5⟩
          · exact ⟨k, by omega, hb, e⟩
/-- The singles at or below an item. -/
def dnN (zs : List Int) (c : Nat) : Nat := (andI (snTo zs zs.length) (atUp (du zs) c)).toNat
def snN (zs : List Int) : Nat := (snTo zs zs.length).toNat
theorem snN_bit (j : Nat) : (snN zs).testBit j = (decide (j < zs.length) && snB zs j) := by
  unfold snN
  rw [← bit_nat (snTo_bd zs _).1, snTo_bit]
theorem dnN_bit (c j : Nat) : (dnN zs c).testBit j = ((decide (j < zs.length) && snB zs j) && bitB (atUp zs j) c) := by
  unfold dnN
  rw [← bit_nat (by unfold andI; omega), bitB_and, snTo_bit, at_du h.sets]
/-- Ideals of singles are as many as items. -/
theorem birk (hl : latB zs = true) (he : EvenAll zs) : (ids zs (snN zs)).length = zs.length := by
  obtain ⟨hn, h2, h3⟩ := latB_parts hl
  have hs64 : snN zs < 64 := by
    have h1 := snTo_bd zs zs.length
    have h2 := powI_le6 (n := (zs.length : Int)) (by have := h.1; omega)
    unfold snN
    omega
  have hid : ∀ c : Nat, IdP zs (snN zs) (dnN zs c) := fun c => ⟨fun j hj => by
    rw [dnN_bit h, Bool.and_eq_true] at hj
    rw [snN_bit h]; exact hj.1, fun a b hb ha hz => by
    rw [dnN_bit h, Bool.and_eq_true] at hb ⊢
    rw [snN_bit h] at ha
    exact ⟨ha, at_trans h (lt_at h hz) hb.2⟩⟩
  have k1 := inj_len (dnN zs) (List.range zs.length) (ids zs (snN zs)) List.nodup_range (fun c _ => mem_ids.2 ⟨idP_lt (hid c) hs64, hid c⟩) (fun a ha b hb e => by
    have ha' : a < zs.length := by simpa using ha
    have hb' : b < zs.length := by simpa using hb
    have key : ∀ x y : Nat, dnN zs x = dnN zs y → ∀ j : Nat, j < zs.length → snB zs j = true → bitB (atUp zs j) x = true → bitB (atUp zs j) y = true := fun x y e j hj hsj hjx => by
      have e1 := dnN_bit h x j
      have e2 := dnN_bit h y j
      rw [e, e2, decide_eq_true hj, hsj, hjx] at e1
      simpa using e1
    exact at_asym h (singles_le h hn h2 h3 _ a b (Nat.le_refl _) ha' hb' (key a b e)) (singles_le h hn h2 h3 _ b a (Nat.le_refl _) hb' ha' (key b a e.symm)))
  have k2 := inj_len (fun t : Nat => t) (ids zs (snN zs)) ((List.range zs.length).map (dnN zs)) (ids_nodup _ _) (fun t ht => by
    obtain ⟨-, ht⟩ := mem_ids.1 ht
    have hsn : ∀ j, t.testBit j = true → j < zs.length ∧ snB zs j = true := fun j hj => by
      have := ht.1 j hj
      rw [snN_bit h, Bool.and_eq_true, decide_eq_true_eq] at this
      exact this
    rw [List.mem_map]
    rcases joins_prime h h2 h3 he t zs.length (Nat.le_refl _) with g | ⟨c, hc, g1, g2⟩
    · obtain ⟨c, hc, hbot⟩ := lat_top (du_vo h) (by rw [du_len]; exact hn) h3
      rw [du_len] at hc hbot
      refine ⟨c, by simpa using hc, Nat.eq_of_testBit_eq fun j => ?_⟩
      have hf : t.testBit j = false := by
        cases e : t.testBit j
        · rfl
        · rw [g j (hsn j e).1] at e; cases e
      rw [hf, Bool.eq_false_iff]
      intro e
      rw [dnN_bit h, Bool.and_eq_true, Bool.and_eq_true, decide_eq_true_eq] at e
      obtain ⟨x, hx, -⟩ := single_low h e.1.1 e.1.2
      have hcj := hbot j e.1.1
      rw [at_du h.sets] at hcj
      have := at_asym h e.2 hcj
      subst this
      have hcx := hbot x (bit_none hx)
      rw [at_du h.sets] at hcx
      have := at_asym h hcx (lt_at h hx)
      subst this
      exact h.irr ⟨e.1.1, hx⟩
    · refine ⟨c, by simpa using hc, Nat.eq_of_testBit_eq fun j => ?_⟩
      rw [Bool.eq_iff_iff, dnN_bit h, Bool.and_eq_true, Bool.and_eq_true, decide_eq_true_eq]
      constructor
      · rintro ⟨⟨hj, hsj⟩, hjc⟩
        obtain ⟨a, ha, hta, hja⟩ := g2 j hj hsj hjc
        by_cases e : j = a
        · subst e; exact hta
        · exact ht.2 j a hta (by rw [snN_bit h, hsj, decide_eq_true hj]; rfl) (at_or hja (fun e2 => e e2.symm))
      · intro e
        exact ⟨hsn j e, g1 j (hsn j e).1 e⟩) (fun _ _ _ _ e => e)
  rw [List.length_map, List.length_range] at k2
  rw [List.length_range] at k1
  omega
end
end Go.Proofs.Ytcadmjpkgnbodaa

/- Parts of an order: what PartOf's and ValidOrder's own laws ask. No program. -/
namespace Go.Proofs.Ytcadmjpkgnbodaa

theorem left_all (n : Nat) : leftL n (2 ^ n - 1) = List.range n := by
  unfold leftL
  rw [List.filter_eq_self]
  intro a ha
  rw [Nat.testBit_two_pow_sub_one]
  simpa using ha
theorem ext_bits {xs ys : List Int} {n : Nat} (hx : xs.length = n) (hy : ys.length = n) (x0 : ∀ i, i < n → 0 ≤ xs[i]?.getD 0) (y0 : ∀ i, i < n → 0 ≤ ys[i]?.getD 0)
    (h : ∀ i j : Nat, i < n → bitB (xs[i]?.getD 0) j = bitB (ys[i]?.getD 0) j) : xs = ys := by
  refine List.ext_getElem? fun i => ?_
  rcases Nat.lt_or_ge i n with hi | hi
  · have e1 : xs[i]? = some (xs[i]?.getD 0) := by rw [List.getElem?_eq_getElem (by omega)]; rfl
    have e2 : ys[i]? = some (ys[i]?.getD 0) := by rw [List.getElem?_eq_getElem (by omega)]; rfl
    rw [e1, e2, bitB_ext (x0 i hi) (y0 i hi) (fun j => h i j hi)]
  · rw [List.getElem?_eq_none (by omega), List.getElem?_eq_none (by omega)]
theorem range_get {n i : Nat} (hi : i < n) : (List.range n)[i]?.getD 0 = i := by simp [hi]
theorem range_Inc (zs : List Int) : Inc zs (List.range zs.length) := ⟨range_inc _, fun a ha => by simpa using ha⟩
theorem ind_all {zs : List Int} (h : VoP zs) : ind zs (List.range zs.length) = zs := by
  have hi := range_Inc zs
  refine ext_bits (n := zs.length) (by rw [ind_len, List.length_range]) rfl (fun i hi' => ((ind_vo h hi).bd i (by rw [ind_len, List.length_range]; exact hi')).1) (fun i hi' => (h.bd i hi').1) fun i j hi' => ?_
  rw [Bool.eq_iff_iff, ind_bit (by rw [List.length_range]; exact hi'), List.length_range, range_get hi']
  constructor
  · rintro ⟨hj, e⟩; rwa [range_get hj] at e
  · intro e
    have hj : j < zs.length := bitB_lt (h.sets.2 i hi').2 e
    exact ⟨hj, by rw [range_get hj]; exact e⟩
theorem part_whole {zs : List Int} (h : VoP zs) : partR zs (powI zs.length - 1) = zs := by
  have hp := powI_pos (zs.length : Int)
  have e : (powI zs.length - 1).toNat = 2 ^ zs.length - 1 := by
    have : powI (zs.length : Int) = ((2 ^ zs.length : Nat) : Int) := by simp [powI]
    omega
  unfold partR
  rw [vo_true h, in_set h (by omega) (by omega), Bool.and_true, if_pos rfl, e, left_all, ind_all h]
theorem part_in {zs : List Int} {s : Int} (h : VoP zs) (h0 : 0 ≤ s) (h1 : s < powI zs.length) : partR zs s = ind zs (leftL zs.length s.toNat) := by
  unfold partR
  rw [vo_true h, in_set h h0 h1, Bool.and_true, if_pos rfl]
theorem part_vo {zs : List Int} {s : Int} (h : VoP zs) (h0 : 0 ≤ s) (h1 : s < powI zs.length) : VoP (partR zs s) := by
  rw [part_in h h0 h1]
  exact ind_vo h (leftL_inc zs _)
theorem vo_nil : VoP [] := ⟨by simp, fun a ha => by simp at ha, fun a ha => by simp at ha⟩
theorem part_vo' {zs : List Int} (h : VoP zs) (s : Int) : VoP (partR zs s) := by
  unfold partR
  split
  · exact ind_vo h (leftL_inc zs _)
  · exact vo_nil
theorem part_len {zs : List Int} {s : Int} (h : VoP zs) (h0 : 0 ≤ s) (h1 : s < powI zs.length) : ((partR zs s).length : Int) = popI s := by
  rw [part_in h h0 h1, ind_len]
  obtain ⟨k, rfl⟩ := Int.eq_ofNat_of_zero_le h0
  have hk : k < 2 ^ zs.length := by unfold powI at h1; simp at h1; exact_mod_cast h1
  rw [Int.toNat_natCast, left_pop h.1 hk]
theorem du_ind {zs : List Int} (h : VoP zs) {l : List Nat} (hl : Inc zs l) : ind (du zs) l = du (ind zs l) := by
  have hi := ind_vo h hl
  have hl2 : Inc (du zs) l := ⟨hl.inc, fun a ha => by rw [du_len]; exact hl.lt a ha⟩
  have hi2 := ind_vo (du_vo h) hl2
  have hd := du_vo hi
  refine ext_bits (n := l.length) (ind_len _ _) (by rw [du_len, ind_len]) (fun i hi' => (hi2.bd i (by rw [ind_len]; exact hi')).1) (fun i hi' => (hd.bd i (by rw [du_len, ind_len]; exact hi')).1) fun i j hi' => ?_
  rw [Bool.eq_iff_iff, ind_bit hi', du_bit h.sets, du_bit hi.sets]
  constructor
  · rintro ⟨hj, e⟩; exact (ind_bit hj).2 ⟨hi', e⟩
  · intro e
    have hj : j < l.length := by have := bit_none e; rwa [ind_len] at this
    exact ⟨hj, ((ind_bit hj).1 e).2⟩
theorem part_du {zs : List Int} {s : Int} (h : VoP zs) (h0 : 0 ≤ s) (h1 : s < powI zs.length) : partR (du zs) s = du (partR zs s) := by
  rw [part_in h h0 h1, part_in (du_vo h) h0 (by rw [du_len]; exact h1), du_len, du_ind h (leftL_inc zs _)]
/-! As many pairs at most. -/
theorem sum_sub {f g : Nat → Nat} : ∀ {l m : List Nat}, l.Sublist m → (∀ a ∈ l, f a ≤ g a) → (l.map f).sum ≤ (m.map g).sum
  | _, _, .slnil, _ => Nat.le_refl _
  | l, b :: m, .cons _ hs, hf => by
    have := sum_sub hs hf
    rw [List.map_cons, List.sum_cons]
    omega
  | a :: l, _ :: m, .cons_cons _ hs, hf => by
    have h1 := sum_sub hs (fun x hx => hf x (List.mem_cons_of_mem _ hx))
    have h2 := hf a (by simp)
    rw [List.map_cons, List.sum_cons, List.map_cons, List.sum_cons]
    omega
theorem cl_sub {r : Nat → Nat → Bool} {l m : List Nat} (h : l.Sublist m) : cl r l l ≤ cl r m m :=
  sum_sub h fun a _ => (h.filter (r a)).length_le
theorem get_range (l : List Nat) : (List.range l.length).map (fun i => l[i]?.getD 0) = l := by
  refine List.ext_getElem? fun i => ?_
  rcases Nat.lt_or_ge i l.length with hi | hi
  · rw [List.getElem?_map, List.getElem?_range hi, List.getElem?_eq_getElem hi, Option.map_some, List.getElem?_eq_getElem hi]; rfl
  · rw [List.getElem?_eq_none (by simpa using hi), List.getElem?_eq_none hi]
theorem map_at (l : List Nat) (f : Nat → Nat) : (List.range l.length).map (fun i => f (l[i]?.getD 0)) = l.map f := by
  conv => rhs; rw [← get_range l]
  rw [List.map_map]
  rfl
theorem filter_at (l : List Nat) (p : Nat → Bool) : ((List.range l.length).filter fun i => p (l[i]?.getD 0)).length = (l.filter p).length := by
  conv => rhs; rw [← get_range l]
  rw [List.filter_map, List.length_map]
  rfl
theorem prs_ind {zs : List Int} {l : List Nat} : prs (ind zs l) = cl (upB zs) l l := by
  unfold prs cl
  rw [ind_len, ← map_at l]
  congr 1
  refine List.map_congr_left fun i hi => ?_
  have hil : i < l.length := by simpa using hi
  rw [← filter_at l]
  congr 1
  refine List.filter_congr fun j hj => ?_
  have hjl : j < l.length := by simpa using hj
  unfold upB
  rw [Bool.eq_iff_iff, ind_bit hil]
  exact ⟨fun h => h.2, fun h => ⟨hjl, h⟩⟩
theorem part_pairs {zs : List Int} {s : Int} (h : VoP zs) (h0 : 0 ≤ s) (h1 : s < powI zs.length) : countR (partR zs s) ≤ countR zs := by
  have hv := part_vo h h0 h1
  unfold countR
  rw [vo_true h, vo_true hv]
  simp only [if_true]
  rw [popTo_prs h.sets, popTo_prs hv.sets, part_in h h0 h1, prs_ind]
  have : cl (upB zs) (leftL zs.length s.toNat) (leftL zs.length s.toNat) ≤ prs zs := cl_sub (List.filter_sublist ..)
  exact_mod_cast this
end Go.Proofs.Ytcadmjpkgnbodaa

/- Even lattices: turned round they are even; ideals of a part are ideals within its set. No program. -/
namespace Go.Proofs.Ytcadmjpkgnbodaa

theorem even_du {zs : List Int} (h : VoP zs) (hl : latB zs = true) (he : EvenAll zs) : EvenAll (du zs) := by
  obtain ⟨hn, h2, h3⟩ := latB_parts hl
  have hdl : (du zs).length = zs.length := du_len zs
  intro a ha b hb c hc
  rw [hdl] at ha hb hc
  unfold goesOver
  rw [du_du h]
  obtain ⟨m, em, hm, cm⟩ := join_val (du_vo h) h3 (show b < (du zs).length by omega) (show c < (du zs).length by omega)
  obtain ⟨x, ex, hx, cx⟩ := join_val h h2 ha hb
  obtain ⟨y, ey, hy, cy⟩ := join_val h h2 ha hc
  obtain ⟨w, ew, hw, cw⟩ := join_val h h2 ha (show m < zs.length by omega)
  obtain ⟨v, ev, hv, cv⟩ := join_val (du_vo h) h3 (show x < (du zs).length by omega) (show y < (du zs).length by omega)
  simp only [at_du h.sets] at cm cv
  rw [em, Int.toNat_natCast, ex, ey, Int.toNat_natCast, Int.toNat_natCast, ew, ev, beq_iff_eq]
  have xx := (cx x).2 (at_self _ _)
  have yy := (cy y).2 (at_self _ _)
  have ww := (cw w).2 (at_self _ _)
  have mm := (cm m).2 (at_self _ _)
  have h1 : bitB (atUp zs w) v = true := (cw v).1 ⟨(cv a).1 ⟨xx.1, yy.1⟩, (cv m).1 ⟨at_trans h mm.1 xx.2, at_trans h mm.2 yy.2⟩⟩
  have vv := (cv v).2 (at_self _ _)
  have h4 : bitB (atUp zs v) w = true := singles_le h hn h2 h3 _ v w (Nat.le_refl _) (by omega) hw fun j hj hs hjv => by
    rcases single_prime h h2 h3 he hj hs ha hb ex hx (at_trans h hjv vv.1) with k1 | k1
    · exact at_trans h k1 ww.1
    · rcases single_prime h h2 h3 he hj hs ha hc ey hy (at_trans h hjv vv.2) with k2 | k2
      · exact at_trans h k2 ww.1
      · exact at_trans h ((cm j).1 ⟨k1, k2⟩) ww.2
  exact congrArg _ (at_asym h h1 h4)
/-- A number of given bits. -/
def mkN (p : Nat → Bool) : Nat → Nat
  | 0 => 0
  | k + 1 => if p k then mkN p k ||| 2 ^ k else mkN p k
theorem mkN_bit (p : Nat → Bool) (j : Nat) : ∀ k : Nat, (mkN p k).testBit j = (decide (j < k) && p j)
  | 0 => by simp [mkN]
  | k + 1 => by
    have ih := mkN_bit p j k
    by_cases e : j = k
    · subst e
      cases hp : p j
      · simp [mkN, hp, ih]
      · simp [mkN, hp, ih, Nat.testBit_or]
    · have h1 : (j < k + 1) ↔ (j < k) := by omega
      have h2 : ¬ k = j := fun e2 => e e2.symm
      cases hp : p k
      · simp [mkN, hp, ih, h1]
      · simp [mkN, hp, ih, h1, Nat.testBit_or, h2]
theorem mem_left {n s a : Nat} : a ∈ leftL n s ↔ a < n ∧ s.testBit a = true := by simp [leftL]
theorem left_at {n s a : Nat} (h1 : a < n) (h2 : s.testBit a = true) : ∃ k : Nat, k < (leftL n s).length ∧ (leftL n s)[k]?.getD 0 = a := by
  obtain ⟨k, hk, e⟩ := List.getElem_of_mem (mem_left.2 ⟨h1, h2⟩)
  exact ⟨k, hk, by rw [List.getElem?_eq_getElem hk]; exact e⟩
theorem left_get {n s k : Nat} (hk : k < (leftL n s).length) : (leftL n s)[k]?.getD 0 < n ∧ s.testBit ((leftL n s)[k]?.getD 0) = true := by
  rw [List.getElem?_eq_getElem hk]
  exact mem_left.1 (List.getElem_mem hk)
theorem ids_ind {zs : List Int} (h : VoP zs) {s : Nat} (hs : s < 2 ^ zs.length) : (ids (ind zs (leftL zs.length s)) (2 ^ (leftL zs.length s).length - 1)).length = (ids zs s).length := by
  have h64 : (2 : Nat) ^ zs.length ≤ 64 := Nat.pow_le_pow_right (n := 2) (by decide) h.1
  have hi := leftL_inc zs s
  have hat : ∀ k, k < (leftL zs.length s).length → (leftL zs.length s)[k]?.getD 0 < zs.length ∧ s.testBit ((leftL zs.length s)[k]?.getD 0) = true := fun k hk => left_get hk
  have hof : ∀ a, s.testBit a = true → ∃ k : Nat, k < (leftL zs.length s).length ∧ (leftL zs.length s)[k]?.getD 0 = a := fun a ha => left_at (bit_lt hs ha) ha
  have hll := hi.len_le
  generalize leftL zs.length s = l at *
  have hl6 : l.length ≤ 6 := Nat.le_trans hll h.1
  have hm64 : (2 : Nat) ^ l.length ≤ 64 := Nat.pow_le_pow_right (n := 2) (by decide) hl6
  have hfull : ∀ j, (2 ^ l.length - 1).testBit j = true ↔ j < l.length := fun j => by rw [Nat.testBit_two_pow_sub_one, decide_eq_true_eq]
  have hex : ∀ t a, (ex l t).testBit a = true ↔ ∃ i, i < l.length ∧ t.testBit i = true ∧ l[i]?.getD 0 = a := fun t a => exTo_bit l t a l.length
  have k1 := inj_len (ex l) (ids (ind zs l) (2 ^ l.length - 1)) (ids zs s) (ids_nodup _ _) (fun t ht => by
    obtain ⟨-, ht⟩ := mem_ids.1 ht
    have hp : IdP zs s (ex l t) := by
      refine ⟨fun j hj => ?_, fun a b hb ha hz => ?_⟩
      · obtain ⟨i, hi1, -, e⟩ := (hex t j).1 hj
        rw [← e]; exact (hat i hi1).2
      · obtain ⟨i, hi1, hti, e⟩ := (hex t b).1 hb
        obtain ⟨k, hk, e2⟩ := hof a ha
        refine (hex t a).2 ⟨k, hk, ht.2 k i hti ((hfull k).2 hk) ((ind_bit hk).2 ⟨hi1, ?_⟩), e2⟩
        rw [e, e2]; exact hz
    exact mem_ids.2 ⟨idP_lt hp (by omega), hp⟩) (fun t ht t2 ht2 e => by
    obtain ⟨-, ht⟩ := mem_ids.1 ht
    obtain ⟨-, ht2⟩ := mem_ids.1 ht2
    refine Nat.eq_of_testBit_eq fun k => ?_
    by_cases hk : k < l.length
    · rw [← ex_at hi hk, ← ex_at hi hk, e]
    · have f : ∀ t, IdP (ind zs l) (2 ^ l.length - 1) t → t.testBit k = false := fun t ht => by
        cases e2 : t.testBit k
        · rfl
        · exact absurd ((hfull k).1 (ht.1 k e2)) hk
      rw [f t ht, f t2 ht2])
  have k2 := inj_len (fun u : Nat => mkN (fun k => u.testBit (l[k]?.getD 0)) l.length) (ids zs s) (ids (ind zs l) (2 ^ l.length - 1)) (ids_nodup _ _) (fun u hu => by
    obtain ⟨-, hu⟩ := mem_ids.1 hu
    have hp : IdP (ind zs l) (2 ^ l.length - 1) (mkN (fun k => u.testBit (l[k]?.getD 0)) l.length) := by
      refine ⟨fun j hj => ?_, fun a b hb ha hz => ?_⟩
      · rw [mkN_bit, Bool.and_eq_true, decide_eq_true_eq] at hj
        exact (hfull j).2 hj.1
      · rw [mkN_bit, Bool.and_eq_true, decide_eq_true_eq] at hb ⊢
        have hal := (hfull a).1 ha
        exact ⟨hal, hu.2 _ _ hb.2 (hat a hal).2 ((ind_bit hal).1 hz).2⟩
    exact mem_ids.2 ⟨idP_lt hp (by omega), hp⟩) (fun u hu u2 hu2 e => by
    obtain ⟨-, hu⟩ := mem_ids.1 hu
    obtain ⟨-, hu2⟩ := mem_ids.1 hu2
    have e : mkN (fun k => u.testBit (l[k]?.getD 0)) l.length = mkN (fun k => u2.testBit (l[k]?.getD 0)) l.length := e
    have key : ∀ k, k < l.length → u.testBit (l[k]?.getD 0) = u2.testBit (l[k]?.getD 0) := fun k hk => by
      have e1 := mkN_bit (fun k => u.testBit (l[k]?.getD 0)) k l.length
      have e2 := mkN_bit (fun k => u2.testBit (l[k]?.getD 0)) k l.length
      rw [e, e2, decide_eq_true hk] at e1
      simpa using e1.symm
    refine Nat.eq_of_testBit_eq fun a => ?_
    cases ha : s.testBit a
    · have f : ∀ u, IdP zs s u → u.testBit a = false := fun u hu => by
        cases e2 : u.testBit a
        · rfl
        · rw [hu.1 a e2] at ha; cases ha
      rw [f u hu, f u2 hu2]
    · obtain ⟨k, hk, rfl⟩ := hof a ha
      exact key k hk)
  omega
/-- The main theorem: as many ideals of the part of the singles as items. -/
theorem even_ideals {zs : List Int} (h : VoP zs) (hl : latB zs = true) (he : EvenAll zs) : countIdealsR (partR zs (snTo zs zs.length)) = zs.length := by
  have hb := snTo_bd zs zs.length
  have hpv := part_vo h hb.1 hb.2
  have hs : snN zs < 2 ^ zs.length := by
    have := pow_cast zs.length
    unfold snN
    omega
  have h64 : (2 : Nat) ^ (partR zs (snTo zs zs.length)).length ≤ 64 := Nat.pow_le_pow_right (n := 2) (by decide) hpv.1
  unfold countIdealsR
  rw [vo_true hpv, if_pos rfl, ciN_ids hpv 64 _ (by omega) (by omega), part_in h hb.1 hb.2, ind_len, ids_ind h (show (snTo zs zs.length).toNat < 2 ^ zs.length from hs)]
  exact congrArg _ (birk h hl he)
end Go.Proofs.Ytcadmjpkgnbodaa

/- The arguments of the laws, opened and shut: lists of numbers. -/
namespace Go.Proofs.Ytcadmjpkgnbodaa
open Go.ChangeShapes Go.WideShapes Go.ChangeAt Go.RowKit
set_option linter.unusedVariables false

section
variable {H : Type} {enc : TypeId × Value → H} {P : Program}
/-- The row's last step where the call leaves all that lay as it lay. -/
theorem post_of_below {f : Func} {s : ChangeSpec} {apart fresh handsOn again : Bool} {W W' : World} {args : Array Value} {v : Value} {ds gs : List (DataW H)} {before pa pv : List MemPlace}
    (hW : DataW.Whole enc P f.params.toList s.vars apart W args.toList ds gs before)
    (hres : ∀ (b : Nat) (sp : Nat → Bool) (hd : Bool), DataW.TrodAll enc P W' b sp hd f.resultTypes.toList (v.resultList f.resultTypes.size) (s.fn H (ds ++ gs)).results [])
    (hargs : ∀ sp : Nat → Bool, (∀ p ∈ before, sp p.block = true) → DataW.TrodAll enc P W' 0 sp true f.params.toList args.toList (s.fn H (ds ++ gs)).args pa)
    (hvars : ∀ sp : Nat → Bool, (∀ p ∈ before, sp p.block = true) → DataW.TrodVars enc P W' sp s.vars (s.fn H (ds ++ gs)).vars pv)
    (hps : before = pa ++ pv) (hb : Below W.heap.size W W')
    (hok : ∀ (j : Nat) (t : TypeId) (r : Value), f.resultTypes[j]? = some t → (v.resultList f.resultTypes.size)[j]? = some r → Value.okWide P W' .any 0 t r) :
    s.post enc P f apart fresh handsOn again W args v W' := by
  have hlt : ∀ p ∈ before, p.block < W.heap.size := fun p hp => hW.lt p hp
  have hold : ∀ p ∈ before, (fun b => decide (b < W.heap.size)) p.block = true := fun p hp => by simpa using hlt p hp
  refine ⟨ds, gs, before, [], pa, pv, hW, hres _ _ _, hargs _ hold, hvars _ hold, World.keptBut_mono (fun p hp => ⟨hp, ?_⟩) (hb.frame (· ∈ before)), fun _ => ?_⟩
  · rw [hps, List.mem_append] at hp
    exact Or.inr hp
  · obtain ⟨_, _, _, _, _, hz, hn⟩ := hW
    refine ⟨hok, _, _, ([] ++ pa) ++ pv, ⟨[] ++ pa, pv, trodAll_append (hargs _ (fun _ _ => rfl)) (hres _ _ _), hvars _ (fun _ _ => rfl), rfl, ?_, ?_⟩, ?_⟩
    · intro b off hp
      have hin : MemPlace.cell b off ∈ before := by rw [hps]; simpa using hp
      rw [hb.frozen (hlt _ hin)]
      exact hz b off hin
    · intro ha
      have := hn ha
      rw [hps] at this
      simpa using this
    · intro p hp _
      rw [hps]
      simpa using hp
end

theorem own : ownKnob Try.prog.godebug = none := by kernel_rfl
theorem cellsInt : Try.prog.cellsOf 3 = 1 := by kernel_rfl

theorem cell_lt {w : World} {a : Addr} {v : Value} (h : w.cell? a = some v) : a.block < w.heap.size := by
  obtain ⟨o, ho, _⟩ := cells_of_cell h
  exact (Array.getElem?_eq_some_iff.1 ho).1
theorem block_of_add (a : Addr) (n : Nat) : (a.add n).block = a.block := by unfold Addr.add; split <;> rfl

section
variable {H : Type} {enc : TypeId × Value → H}
set_option maxRecDepth 100000 in
/-- A list of numbers that comes in: it reads as numbers, and reads again so in whatever world that keeps what lay. -/
theorem arg_ints {W : World} {v : Value} {d : DataW H} {p : List MemPlace} {base : Nat} (hok : Value.okWide Try.prog W .any base 22 v)
    (h : DataW.Trod enc Try.prog W 0 (fun _ => true) true 22 v d p) :
    ∃ (A : Option Addr) (n c : Nat) (zs : List Int), v = .slice A n c ∧ Ints W W.heap.size A n zs ∧ (∀ x ∈ zs, (Lit.int .i64 x).wf = true) ∧
      ∀ (W' : World), Below W.heap.size W W' → ∀ sp : Nat → Bool, (∀ q ∈ p, sp q.block = true) → DataW.Trod enc Try.prog W' 0 sp true 22 v d p := by
  obtain ⟨a0, len, cap, rfl⟩ := okWide_slice Try.underlying22 hok
  obtain ⟨fuel, hf⟩ := h
  rcases open_ints Try.underlying22 Try.underlying3 cellsInt hf with ⟨hcs, hx⟩ | ⟨a, len', cap', zs, hcs, _, hl, hm, hz, hx, hcell, hwz⟩
  · simp [Value.cells] at hcs
    obtain ⟨rfl, rfl, rfl⟩ := hcs
    simp only [Prod.mk.injEq] at hx
    obtain ⟨rfl, rfl⟩ := hx
    exact ⟨none, 0, 0, [], rfl, Ints.nil _ _ _, (fun _ hx => by cases hx), fun W' hb sp _ => shut_slice_nil Try.underlying22⟩
  · simp [Value.cells] at hcs
    obtain ⟨rfl, rfl, rfl⟩ := hcs
    simp only [Prod.mk.injEq] at hx
    obtain ⟨rfl, rfl⟩ := hx
    simp only [if_true] at hz
    have hlt : ∀ j, j < zs.length → a.block < W.heap.size := fun j hj => by
      have := cell_lt (hcell j hj)
      rwa [block_of_add] at this
    refine ⟨some a, len, cap, zs.take len, rfl, ⟨by simp; omega, fun hn => ?_⟩, fun x hx => hwz x (List.mem_of_mem_take hx), fun W' hb sp hsp => ?_⟩
    · obtain ⟨b, off, spot⟩ := a
      have hspot : spot = none := by simpa [Addr.add] using World.cell?_spot (hcell 0 (by omega))
      subst hspot
      refine ⟨b, off, rfl, hlt 0 (by omega), fun j hj => ?_⟩
      rw [← add_plain, hcell j (by omega)]
      simp [hj]
    · by_cases hz0 : zs.length = 0
      · have hc0 : cap = 0 := by omega
        have hl0 : len = 0 := by omega
        subst hc0; subst hl0
        have t0 := shut_ints (enc := enc) (w := W') (base := 0) (spare := sp) (held := true) (a := a) (len := 0) (cap := 0) (zs := zs) 0 Try.underlying22 Try.underlying3 cellsInt (Nat.zero_le _) (Nat.le_refl _) hm (by simp [hz0]) (fun j hj => by omega) hwz
        exact ⟨2, by simpa [Value.cells] using t0⟩
      · have hspb : sp a.block = true := by
          have := hsp (.cell a.block a.off) (MemPlace.mem_row.2 ⟨0, by omega, by simp⟩)
          exact this
        have t0 := shut_ints (enc := enc) (w := W') (base := 0) (spare := sp) (held := true) (a := a) (len := len) (cap := cap) (zs := zs) 0 Try.underlying22 Try.underlying3 cellsInt (Nat.zero_le _) hl hm (by simp [hspb, hz]) (fun j hj => by
          rw [hb.cell (by rw [block_of_add]; exact hlt j hj)]; exact hcell j hj) hwz
        exact ⟨2, by simpa [Value.cells] using t0⟩
end
end Go.Proofs.Ytcadmjpkgnbodaa

/- Ideals: the model's. -/
namespace Go.Proofs.Ytcadmjpkgnbodaa
open Go.RowKit Go.Shelf
attribute [local go_sem] Oper.semAt_some
attribute [local go_sem, local simp] wide_fn

end Go.Proofs.Ytcadmjpkgnbodaa

/- Ideals: both sides. -/
namespace Go.Proofs.Ytcadmjpkgnbodaa
end Go.Proofs.Ytcadmjpkgnbodaa

/- IdealsOf: the model's and the program's. -/
namespace Go.Proofs.Ytcadmjpkgnbodaa
open Go.RowKit Go.Shelf
attribute [local go_sem] Oper.semAt_some
attribute [local go_sem, local simp] wide_fn

set_option maxRecDepth 100000 in
set_option maxHeartbeats 4000000 in
theorem oideals_any (A : Option Addr) (n c : Nat) (zs : List Int) (hvo : VoP zs) (w : World) (hA : Ints w w.heap.size A n zs) :
    Calls Try.prog 100 #[.slice A n c] w fun e W' => ∃ A' m c', e = .returned (.slice A' m c') ∧ Ints W' W'.heap.size A' m (setsTo (idB zs) (2 ^ n)) ∧ Below w.heap.size w W' := by
  refine (callsIn_wide (n := 9)).1 ?_
  refine callsIn_of_wp_marks Try.func100 rfl trivial ?_ rfl
  simp only [Try.ntmps100, List.size_toArray, List.length_cons, List.length_nil, Nat.reduceAdd, Nat.reduceSub, Array.replicate_succ, Array.replicate_zero, List.push_toArray, List.append_toArray, List.nil_append, List.cons_append]
  obtain ⟨i0, hi0, hz0, hz1, hz2⟩ := info_parts infoItems
  have hlen := Lib.hid hA.len
  have hn6 : n ≤ 6 := by have := hvo.1; rw [hlen.out] at this; exact this
  have hp6 : (2 : Nat) ^ n ≤ 2 ^ 6 := Nat.pow_le_pow_right (by decide) hn6
  have hN := Lib.hid (show powI n = ((2 ^ n : Nat) : Int) by simp [powI])
  gi_wp2_with (gi_at_call 120; refine (callsIn_wide.2 (sets_any _ _ _ _)).mono ?_; rintro e w' ⟨rfl, rfl⟩)
  have bO := ((Boxed.new w 38 (.slice A n c)).alloc (.cells #[Value.slice none 0 0] 37)).alloc (.cells #[Value.slice A n c] 38)
  have bV := (Boxed.new (w.alloc (.cells #[Value.slice A n c] 38)) 37 (.slice none 0 0)).alloc (.cells #[Value.slice A n c] 38)
  have bE := Boxed.new ((w.alloc (.cells #[Value.slice A n c] 38)).alloc (.cells #[Value.slice none 0 0] 37)) 38 (.slice A n c)
  have hu0 : Upd (fun _ => False) w (((w.alloc (.cells #[Value.slice A n c] 38)).alloc (.cells #[Value.slice none 0 0] 37)).alloc (.cells #[Value.slice A n c] 38)) := (((Upd.refl _ w).alloc _).alloc _).alloc _
  have hzz : (((w.alloc (.cells #[Value.slice A n c] 38)).alloc (.cells #[Value.slice none 0 0] 37)).alloc (.cells #[Value.slice A n c] 38)).heap.size = w.heap.size + 3 := by simp
  simp only [World.size_alloc] at bV bE
  obtain ⟨W0, hW0⟩ : ∃ W0, (((w.alloc (.cells #[Value.slice A n c] 38)).alloc (.cells #[Value.slice none 0 0] 37)).alloc (.cells #[Value.slice A n c] 38)) = W0 := ⟨_, rfl⟩
  rw [hW0] at bO bV bE hu0 hzz ⊢
  clear hW0
  have hA0 : Ints W0 w.heap.size A n zs := hA.below (hu0.toBelow (fun _ e => e.elim) (Nat.le_refl _))
  refine range_out (n := 9) (gf := 136) (lb := #[.pointer (some ⟨w.heap.size + 1 + 1, 0, none⟩)]) rfl (enters_of Try.func136 (by kernel_rfl) rfl) (encs := encS) (L := List.range (2 ^ n))
    (fun k => k = w.heap.size + 1) (fun k e => by omega) (fun _ => rfl)
    (fun W1 l1 hu1 hl1 hl2 => sets_iter _ _ _ hn6 _ _ W1 (hu1.boxed bE (fun e => e)))
    (fun pre D W => ∃ v, Boxed W (w.heap.size + 1) 37 v ∧ OwnS D W w.heap.size 46 v (setsTo (idB zs) pre.length) ∧ Upd (fun k => k = w.heap.size + 1) W0 W)
    (fun _ _ _ _ => False)
    (fun _ D X Y hs hu => by
      obtain ⟨v, h1, h2, h3⟩ := hs
      exact ⟨v, hu.boxed h1 (fun e => by omega), h2.keep hu (fun k hk e => e.2 hk), h3.trans' hu (fun i hi e => by omega)⟩)
    (fun _ _ _ _ _ hs _ => hs)
    ⟨_, bV, OwnS.none _ _ _ _, Upd.refl _ _⟩ ?owes ?done ?stop
  case owes =>
    rintro l1 pre x D1 W hl1 hl2 hDl hD1 - hpre K hK
    gi_wp2
    refine hK _ _ (Upd.refl _ _) ?_
    rintro Wb hWb - ⟨v, bV1, hO, hU⟩
    clear hK
    obtain ⟨hx, hxN⟩ := range_at hpre
    subst hx
    have hNo := hN.out
    have hsb := hU.size
    have hszb := hWb.size
    have hcO := (hU.boxed bO (by omega)).cell
    have hsl := setsTo_len (idB zs) pre.length
    have hAb : Ints Wb w.heap.size A n zs := hA0.below (hU.toBelow (fun k e => by omega) (by omega))
    clear hpre
    generalize hq : pre.length = q at *
    have Hq := Lib.hid hq
    clear hq
    gi_wp2_with fail
    refine (CallsIn.inRound l1 (callsIn_wide.2 (oisIdeal_any _ n _ zs q hvo Wb (hAb.more (by omega)) (by omega) (by omega)))).mono ?_
    rintro e W2 ⟨rfl, hB2⟩
    have z2 := hB2.size
    have bV2 := (Below.toUpd hB2).boxed bV1 (fun e => by omega)
    have hO2 := hO.keep (Below.toUpd hB2) (fun k hk e => by have := hD1 k hk; omega)
    have hU2 := hU.below hB2 (fun k h1 h2 => by omega)
    have hV2 : Upd (fun k => k = w.heap.size + 1 ∨ D1 k ∨ W.heap.size ≤ k) Wb W2 := (Below.toUpd hB2).mono (fun k hk e => by omega)
    clear hAb
    cases hid : idB zs (q : Int)
    · have Hs := Lib.hid (setsTo_no (p := idB zs) hid)
      gi_wp2
      exact ⟨D1, ⟨v, bV2, by rw [List.length_append, List.length_singleton, Hq.out, Hs.out]; exact hO2, hU2⟩, hV2, fun k hk => .inl hk⟩
    · have Hs := Lib.hid (setsTo_yes (p := idB zs) hid)
      have hcV := bV2.cell
      have hfV := bV2.frozen
      have hvb : some (w.heap.size + 1) ≠ v.ownBlock := by
        intro e
        have := hD1 _ (hO2.1 _ e.symm); omega
      generalize hxs : setsTo (idB zs) q = xs at *
      clear hxs
      gi_wp2_with (gi_at_builtin; go_loud (refine wpListIn_append1 _ rfl (.tmp 11) (.tmp 13) _ rfl w.heap.size 46 i0 _ 8 Try.underlying37 hi0 hz0 hz1 hz2 rfl _ xs.length _ rfl (hO2.2.alloc _) W2.heap.size 1 (.int .i64 q) rfl (cell_new _ _ _) rfl (by omega) (by omega) (by simp; omega) ?_); rintro v' w' hown' hg' hv'; obtain ⟨g', cap', rfl⟩ := ownsRow_succ hown'; have bV3 := (bV2.alloc _).kept hg' hvb; have hcV3 := bV3.cell; have hfV3 := bV3.frozen)
      rename_i w'
      have zg := hg'.size
      simp at zg
      have hst := hO2.step (S' := fun k => D1 k ∨ W.heap.size ≤ k ∧ k < w'.heap.size) hown' hv' (fun k e => .inl e) (fun h9 => .inr ⟨by omega, h9⟩)
      have hgU : Upd (fun k => k = w.heap.size + 1) W0 w' := (hU2.alloc _).grown hg' (fun k hk => .inl (by have := hD1 _ (hO2.1 k hk); omega))
      have hbU : Upd (fun k => k = w.heap.size + 1 ∨ D1 k ∨ W.heap.size ≤ k) Wb w' := (hV2.alloc _).grown hg' (fun k hk => .inr (.inr (.inl (hO2.1 k hk))))
      have hus : Upd (fun k => k = w.heap.size + 1) w' (w'.setCell ⟨w.heap.size + 1, 0, none⟩ (.slice (some ⟨g', 0, none⟩) (xs.length + 1) cap')) := (Upd.refl (fun k => k = w.heap.size + 1) w').setCell (p := ⟨w.heap.size + 1, 0, none⟩) (.inr rfl) _
      exact ⟨fun k => D1 k ∨ W.heap.size ≤ k ∧ k < w'.heap.size, ⟨_, bV3.set _, by rw [List.length_append, List.length_singleton, Hq.out, Hs.out]; exact hst.keep hus (fun k hk e => by
          rcases hk with h9 | h9
          · have := hD1 _ h9; omega
          · omega), hgU.setCell (p := ⟨w.heap.size + 1, 0, none⟩) (.inr rfl) _⟩,
        hbU.setCell (p := ⟨w.heap.size + 1, 0, none⟩) (.inr (.inl rfl)) _, fun k hk => hk.elim .inl (fun h => .inr ⟨h.1, by simpa [World.setCell] using h.2⟩)⟩
  case done =>
    rintro d D1 W hd ⟨v, bV1, hO, hU⟩ hD1 hKd
    have hcV := bV1.cell
    rw [List.length_range] at hO
    gi_wp2
    refine leaves_marks [d] _ ⟨by simp, fun b hb => ?_⟩ (fun W' hu' => ?_)
    · rw [List.mem_singleton.1 hb]
      exact hKd
    · have hO' := hO.keep hu' (fun k hk e => by simp at e; have := hD1 k hk; omega)
      obtain ⟨A', c', rfl, hI⟩ := ints_of_own hO'.2
      exact ⟨_, by simp [results, Try.f100, go_sem], A', _, c', rfl, hI,
        (((hu0.mono fun _ _ e => e.elim).trans' hU (fun i hi e => by omega)).trans' hu' (fun i hi e => by simp at e; omega)).toBelow (R := fun _ => False) (fun _ e => e.elim) (Nat.le_refl _)⟩
  case stop =>
    rintro d D1 co pre W hd hpre h
    exact h.elim

theorem idealsR_le (zs : List Int) : (idealsR zs).length ≤ 1048576 := by
  unfold idealsR
  cases hv : vo zs
  · simp
  · have hvo : VoP zs := by simpa [vo] using hv
    have h1 : (2 : Nat) ^ zs.length ≤ 2 ^ 6 := Nat.pow_le_pow_right (by decide) hvo.1
    have h2 := setsTo_len (idB zs) (2 ^ zs.length)
    simp only [if_true]
    omega
end Go.Proofs.Ytcadmjpkgnbodaa

/- Numberings of items: item by item (the model), and number by number over the ideals (the program): as many. No program. -/
namespace Go.Proofs.Ytcadmjpkgnbodaa

def cmpB (st : Bool) (x y : Int) : Bool := if st then decide (x < y) else decide (x ≤ y)
theorem cmpB_le {st : Bool} {x y : Int} (h : cmpB st x y = true) : x ≤ y := by cases st <;> simp [cmpB] at h <;> omega
theorem cmpB_lt (st : Bool) {x y : Int} (h : x < y) : cmpB st x y = true := by cases st <;> simp [cmpB] <;> omega
abbrev atG (g : List Int) (a : Nat) : Int := g[a]?.getD 0
/-- The pair of items is numbered as it may. -/
def twB (st : Bool) (zs g : List Int) (a : Nat) (x : Int) (b : Nat) : Bool := (!upw zs b a || cmpB st (atG g b) x) && (!upw zs a b || cmpB st x (atG g b))
def fineB (st : Bool) (zs g : List Int) (x : Int) : Bool := (List.range g.length).all (twB st zs g g.length x)
/-- In how many ways the items that are left are numbered. -/
def mN (st : Bool) (zs : List Int) (k : Nat) : Nat → List Int → Nat
  | 0, _ => 1
  | f + 1, g => ((List.range k).map fun x : Nat => if fineB st zs g ((x : Int) + 1) then mN st zs k f (g ++ [(x : Int) + 1]) else 0).sum
def mL (st : Bool) (zs : List Int) (k : Nat) : Nat → List Int → List (List Int)
  | 0, g => [g]
  | f + 1, g => (List.range k).flatMap fun x : Nat => if fineB st zs g ((x : Int) + 1) then mL st zs k f (g ++ [(x : Int) + 1]) else []
theorem mL_len (st : Bool) (zs : List Int) (k : Nat) : ∀ (f : Nat) (g : List Int), (mL st zs k f g).length = mN st zs k f g
  | 0, _ => rfl
  | f + 1, g => by
    rw [mL, mN, List.length_flatMap]
    congr 1
    refine List.map_congr_left fun x _ => ?_
    split
    · exact mL_len st zs k f _
    · rfl
/-- A numbering from item m on is as it may be. -/
def OkN (st : Bool) (zs : List Int) (k m : Nat) (l : List Int) : Prop := ∀ a, m ≤ a → a < l.length → 1 ≤ atG l a ∧ atG l a ≤ k ∧ ∀ b, b < a → twB st zs l a (atG l a) b = true
theorem atG_app {g : List Int} {a : Nat} (h : List Int) (ha : a < g.length) : atG (g ++ h) a = atG g a := by unfold atG; rw [List.getElem?_append_left ha]
theorem atG_new (g : List Int) (x : Int) : atG (g ++ [x]) g.length = x := by simp [atG]
theorem mem_mL {st : Bool} {zs : List Int} {k : Nat} : ∀ (f : Nat) (g l : List Int), l ∈ mL st zs k f g ↔ l.length = g.length + f ∧ (∀ a, a < g.length → atG l a = atG g a) ∧ OkN st zs k g.length l
  | 0, g, l => by
    rw [mL, List.mem_singleton]
    constructor
    · rintro rfl
      exact ⟨rfl, fun a _ => rfl, fun a h1 h2 => by omega⟩
    · rintro ⟨h1, h2, -⟩
      apply List.ext_getElem h1
      intro i j1 j2
      have := h2 i j2
      simpa [atG, j1, j2] using this
  | f + 1, g, l => by
    rw [mL, List.mem_flatMap]
    constructor
    · rintro ⟨x, hx, hl⟩
      rw [List.mem_range] at hx
      cases hf : fineB st zs g ((x : Int) + 1)
      · rw [hf] at hl; simp at hl
      · rw [hf, if_pos rfl, mem_mL f] at hl
        obtain ⟨h1, h2, h3⟩ := hl
        rw [List.length_append, List.length_singleton] at h1 h2 h3
        have hg : ∀ a, a < g.length → atG l a = atG g a := fun a ha => by rw [h2 a (by omega), atG_app _ ha]
        refine ⟨by omega, hg, fun a h4 h5 => ?_⟩
        rcases Nat.lt_or_ge g.length a with h6 | h6
        · exact h3 a (by omega) h5
        · obtain rfl : a = g.length := by omega
          have e := h2 g.length (by omega)
          rw [atG_new] at e
          rw [e]
          refine ⟨by omega, by omega, fun b hb => ?_⟩
          have := List.all_eq_true.1 hf b (List.mem_range.2 hb)
          unfold twB at *
          rw [hg b hb]
          exact this
    · rintro ⟨h1, h2, h3⟩
      obtain ⟨h4, h5, h6⟩ := h3 g.length (Nat.le_refl _) (by omega)
      obtain ⟨x, hx⟩ : ∃ x : Nat, atG l g.length = (x : Int) + 1 := ⟨(atG l g.length - 1).toNat, by omega⟩
      rw [hx] at h5 h6
      have hf : fineB st zs g ((x : Int) + 1) = true := List.all_eq_true.2 fun b hb => by
        have hb := List.mem_range.1 hb
        have := h6 b hb
        unfold twB at *
        rw [h2 b hb] at this
        exact this
      refine ⟨x, List.mem_range.2 (by omega), ?_⟩
      rw [hf, if_pos rfl, mem_mL f, List.length_append, List.length_singleton]
      refine ⟨by omega, fun a ha => ?_, fun a h7 h8 => h3 a (by omega) h8⟩
      rcases Nat.lt_or_ge a g.length with h9 | h9
      · rw [atG_app _ h9]; exact h2 a h9
      · obtain rfl : a = g.length := by omega
        rw [atG_new]; exact hx
theorem mL_nodup (st : Bool) (zs : List Int) (k : Nat) : ∀ (f : Nat) (g : List Int), (mL st zs k f g).Nodup
  | 0, g => by simp [mL]
  | f + 1, g => by
    rw [mL]
    unfold List.Nodup
    rw [List.pairwise_flatMap]
    constructor
    · intro x _
      split
      · exact mL_nodup st zs k f _
      · exact List.Pairwise.nil
    · refine List.Pairwise.imp ?_ (List.nodup_range (n := k))
      intro x y hxy l1 h1 l2 h2 e
      subst e
      split at h1
      · split at h2
        · have e1 := ((mem_mL f _ _).1 h1).2.1 g.length (by simp)
          have e2 := ((mem_mL f _ _).1 h2).2.1 g.length (by simp)
          rw [atG_new] at e1 e2
          omega
        · simp at h2
      · simp at h1

/-! Number by number. -/
def idl (zs : List Int) : List Nat := (List.range (2 ^ zs.length)).filter fun j => idB zs (j : Int)
theorem mem_idl {zs : List Int} {t : Nat} : t ∈ idl zs ↔ t < 2 ^ zs.length ∧ idB zs (t : Int) = true := by simp [idl]
def inB' (ms : Int → Bool) (s t : Nat) : Bool := lessI (t : Int) (s : Int) == 0 && ms (lessI (s : Int) (t : Int))
def pN (ms : Int → Bool) (zs : List Int) : Nat → Nat → Nat
  | 0, s => if s = 0 then 1 else 0
  | k + 1, s => ((idl zs).map fun t => if inB' ms s t then pN ms zs k t else 0).sum
def rai (n : Nat) (s t k : Nat) (g : List Int) : List Int := (List.range n).map fun x => if s.testBit x && !t.testBit x then (k : Int) + 1 else atG g x
def pL (ms : Int → Bool) (zs : List Int) : Nat → Nat → List (List Int)
  | 0, s => if s = 0 then [List.replicate zs.length 0] else []
  | k + 1, s => (idl zs).flatMap fun t => if inB' ms s t then (pL ms zs k t).map (rai zs.length s t k) else []
theorem pL_len (ms : Int → Bool) (zs : List Int) : ∀ (k s : Nat), (pL ms zs k s).length = pN ms zs k s
  | 0, s => by rw [pL, pN]; split <;> rfl
  | k + 1, s => by
    rw [pL, pN, List.length_flatMap]
    congr 1
    refine List.map_congr_left fun t _ => ?_
    split
    · rw [List.length_map]; exact pL_len ms zs k t
    · rfl
theorem rai_at {n s t k x : Nat} (g : List Int) (hx : x < n) : atG (rai n s t k g) x = if s.testBit x && !t.testBit x then (k : Int) + 1 else atG g x := by
  simp [rai, atG, hx]
theorem rai_len (n s t k : Nat) (g : List Int) : (rai n s t k g).length = n := by simp [rai]
/-- The items of s are numbered up to k. -/
def GdN (st : Bool) (zs : List Int) (k s : Nat) (g : List Int) : Prop :=
  g.length = zs.length ∧ (∀ x, x < zs.length → s.testBit x = false → atG g x = 0) ∧ (∀ x, x < zs.length → s.testBit x = true → 1 ≤ atG g x ∧ atG g x ≤ k) ∧ ∀ x y, s.testBit x = true → s.testBit y = true → upw zs x y = true → cmpB st (atG g x) (atG g y) = true
theorem in_iff {s t : Nat} : (lessI (t : Int) (s : Int) == 0) = true ↔ ∀ j, t.testBit j = true → s.testBit j = true := by
  rw [beq_iff_eq, lessI_none]
  simp only [bit_cast]
theorem idN_iff {zs : List Int} (h : VoP zs) {t : Nat} (ht : t < 2 ^ zs.length) : idB zs (t : Int) = true ↔ ∀ a b : Nat, t.testBit b = true → upw zs a b = true → t.testBit a = true := by
  rw [idB_iff h.sets (by omega) (by rw [pow_cast]; omega)]
  simp only [bit_cast]
  rfl
theorem less_bit (s t j : Nat) : bitB (lessI (s : Int) (t : Int)) (j : Int) = (s.testBit j && !t.testBit j) := by rw [bitB_less, bit_cast, bit_cast]
theorem less_64 {s t : Nat} (hs : s < 64) : lessI (s : Int) (t : Int) < 64 := by have := lessI_bd (s : Int) (t : Int); omega
/-- What may have one number. -/
def msOf (st : Bool) (zs : List Int) (r : Int) : Bool := if st then apB zs r else true
theorem ms_ok {st : Bool} {zs : List Int} {s t : Nat} (hs : s < 64) (h : st = true → ∀ a b : Nat, s.testBit a = true → t.testBit a = false → s.testBit b = true → t.testBit b = false → upw zs a b = false) : msOf st zs (lessI (s : Int) (t : Int)) = true := by
  unfold msOf
  cases st
  · rfl
  · simp only [if_true]
    rw [apB_iff (less_64 hs)]
    intro a b ha hb
    rw [less_bit, Bool.and_eq_true, Bool.not_eq_true'] at ha hb
    exact h rfl a b ha.1 ha.2 hb.1 hb.2
theorem ms_no {zs : List Int} {s t : Nat} (hs : s < 64) (h : msOf true zs (lessI (s : Int) (t : Int)) = true) {a b : Nat} (a1 : s.testBit a = true) (a2 : t.testBit a = false) (b1 : s.testBit b = true) (b2 : t.testBit b = false) : upw zs a b = false := by
  unfold msOf at h
  simp only [if_true] at h
  exact (apB_iff (less_64 hs)).1 h a b (by rw [less_bit, a1, a2]; rfl) (by rw [less_bit, b1, b2]; rfl)
theorem mem_pL {st : Bool} {zs : List Int} (h : VoP zs) : ∀ (k s : Nat), s < 2 ^ zs.length → idB zs (s : Int) = true → ∀ g : List Int, g ∈ pL (msOf st zs) zs k s ↔ GdN st zs k s g
  | 0, s, hs, hi, g => by
    rw [pL]
    have hz : ∀ j, (0 : Nat).testBit j = false := fun j => Nat.zero_testBit j
    by_cases h0 : s = 0
    · subst h0
      rw [if_pos rfl, List.mem_singleton]
      constructor
      · rintro rfl
        refine ⟨by simp, fun x hx _ => by simp [atG, hx], fun x _ hb => by rw [hz] at hb; simp at hb, fun x y hb => by rw [hz] at hb; simp at hb⟩
      · rintro ⟨h1, h2, -, -⟩
        apply List.ext_getElem
        · simp [h1]
        · intro i j1 j2
          have := h2 i (by omega) (hz i)
          simpa [atG, j1] using this
    · rw [if_neg h0]
      constructor
      · intro hm; simp at hm
      · rintro ⟨-, -, h3, -⟩
        exfalso
        have : ∃ j, s.testBit j = true := by
          apply Classical.byContradiction
          intro hno
          refine h0 (Nat.eq_of_testBit_eq fun j => ?_)
          rw [hz]
          cases e : s.testBit j
          · rfl
          · exact absurd ⟨j, e⟩ hno
        obtain ⟨j, hj⟩ := this
        have hjn : j < zs.length := bit_lt hs hj
        have := h3 j hjn hj
        omega
  | k + 1, s, hs, hi, g => by
    have h64 : (2 : Nat) ^ zs.length ≤ 64 := Nat.pow_le_pow_right (n := 2) (by decide) h.1
    rw [pL, List.mem_flatMap]
    have hiS := (idN_iff h hs).1 hi
    constructor
    · rintro ⟨t, ht, hg⟩
      obtain ⟨t1, t2⟩ := mem_idl.1 ht
      cases hin : inB' (msOf st zs) s t
      · rw [hin] at hg; simp at hg
      · rw [hin, if_pos rfl, List.mem_map] at hg
        obtain ⟨g', hg', rfl⟩ := hg
        obtain ⟨q1, q2, q3, q4⟩ := (mem_pL h k t t1 t2 g').1 hg'
        unfold inB' at hin
        rw [Bool.and_eq_true, in_iff] at hin
        obtain ⟨hsub, hms⟩ := hin
        have hiT := (idN_iff h t1).1 t2
        have hval : ∀ x, x < zs.length → s.testBit x = true → t.testBit x = false → atG (rai zs.length s t k g') x = (k : Int) + 1 := fun x hx h1 h2 => by rw [rai_at _ hx, h1, h2]; rfl
        have hold : ∀ x, x < zs.length → t.testBit x = true → atG (rai zs.length s t k g') x = atG g' x := fun x hx h2 => by rw [rai_at _ hx, h2]; simp
        refine ⟨rai_len _ _ _ _ _, fun x hx hb => ?_, fun x hx hb => ?_, fun x y hx hy hxy => ?_⟩
        · have htx : t.testBit x = false := by
            cases e : t.testBit x
            · rfl
            · rw [hsub x e] at hb; simp at hb
          rw [rai_at _ hx, hb]
          simp only [Bool.false_and, Bool.false_eq_true, if_false]
          exact q2 x hx htx
        · cases htx : t.testBit x
          · rw [hval x hx hb htx]; omega
          · rw [hold x hx htx]
            have := q3 x hx htx
            omega
        · have hxn : x < zs.length := bit_lt hs hx
          have hyn : y < zs.length := bit_lt hs hy
          cases hty : t.testBit y
          · rw [hval y hyn hy hty]
            cases htx : t.testBit x
            · rw [hval x hxn hx htx]
              cases st
              · simp [cmpB]
              · have := ms_no (by omega) hms hx htx hy hty
                rw [hxy] at this; simp at this
            · rw [hold x hxn htx]
              have := q3 x hxn htx
              exact cmpB_lt st (by omega)
          · have htx := hiT x y hty hxy
            rw [hold x hxn htx, hold y hyn hty]
            exact q4 x y htx hty hxy
    · rintro ⟨q1, q2, q3, q4⟩
      have hb : ∀ j, (mkN (fun x => s.testBit x && decide (atG g x ≤ k)) zs.length).testBit j = true ↔ s.testBit j = true ∧ atG g j ≤ k := fun j => by
        rw [mkN_bit]
        simp only [Bool.and_eq_true, decide_eq_true_iff]
        exact ⟨fun e => e.2, fun e => ⟨bit_lt hs e.1, e⟩⟩
      obtain ⟨t, ht⟩ : ∃ t, mkN (fun x => s.testBit x && decide (atG g x ≤ k)) zs.length = t := ⟨_, rfl⟩
      rw [ht] at hb
      have t1 : t < 2 ^ zs.length := Nat.lt_pow_two_of_testBit _ fun j hj => by
        cases e : t.testBit j
        · rfl
        · have := bit_lt hs ((hb j).1 e).1; omega
      have hsub : ∀ j, t.testBit j = true → s.testBit j = true := fun j e => ((hb j).1 e).1
      have hnot : ∀ j, s.testBit j = true → t.testBit j = false → atG g j = (k : Int) + 1 := fun j e1 e2 => by
        have h1 := (q3 j (bit_lt hs e1) e1).2
        have h2 : ¬ atG g j ≤ k := fun e3 => by rw [(hb j).2 ⟨e1, e3⟩] at e2; simp at e2
        omega
      have t2 : idB zs (t : Int) = true := (idN_iff h t1).2 fun a b e1 e2 => by
        obtain ⟨e3, e4⟩ := (hb b).1 e1
        have e5 := hiS a b e3 e2
        exact (hb a).2 ⟨e5, by have := cmpB_le (q4 a b e5 e3 e2); omega⟩
      refine ⟨t, mem_idl.2 ⟨t1, t2⟩, ?_⟩
      have hin : inB' (msOf st zs) s t = true := by
        unfold inB'
        rw [Bool.and_eq_true, in_iff]
        refine ⟨hsub, ms_ok (by omega) fun hst a b a1 a2 b1 b2 => ?_⟩
        subst hst
        cases e : upw zs a b
        · rfl
        · have := q4 a b a1 b1 e
          rw [hnot a a1 a2, hnot b b1 b2] at this
          simp [cmpB] at this
      rw [hin, if_pos rfl, List.mem_map]
      have hgat : ∀ x, x < zs.length → atG ((List.range zs.length).map fun x => if t.testBit x then atG g x else 0) x = if t.testBit x then atG g x else 0 := fun x hx => by simp [atG, hx]
      refine ⟨(List.range zs.length).map fun x => if t.testBit x then atG g x else 0, (mem_pL h k t t1 t2 _).2 ⟨by simp, fun x hx e => ?_, fun x hx e => ?_, fun x y hx hy hxy => ?_⟩, ?_⟩
      · rw [hgat x hx, e]; rfl
      · rw [hgat x hx, e, if_pos rfl]
        exact ⟨(q3 x hx (hsub x e)).1, ((hb x).1 e).2⟩
      · rw [hgat x (bit_lt t1 hx), hgat y (bit_lt t1 hy), hx, hy, if_pos rfl, if_pos rfl]
        exact q4 x y (hsub x hx) (hsub y hy) hxy
      · apply List.ext_getElem
        · rw [rai_len, q1]
        · intro i j1 j2
          have hin' : i < zs.length := by rw [rai_len] at j1; exact j1
          have e := rai_at (s := s) (t := t) (k := k) ((List.range zs.length).map fun x => if t.testBit x then atG g x else 0) hin'
          rw [hgat i hin'] at e
          have e' : atG (rai zs.length s t k ((List.range zs.length).map fun x => if t.testBit x then atG g x else 0)) i = atG g i := by
            rw [e]
            cases h1 : s.testBit i
            · have h2 : t.testBit i = false := by
                cases e2 : t.testBit i
                · rfl
                · rw [hsub i e2] at h1; simp at h1
              rw [h2]
              simp only [Bool.false_and, Bool.false_eq_true, if_false]
              exact (q2 i hin' h1).symm
            · cases h2 : t.testBit i
              · simp only [Bool.not_false, Bool.and_self, if_true]
                exact (hnot i h1 h2).symm
              · simp
          simpa [atG, j1, j2] using e'
theorem pL_nodup {st : Bool} {zs : List Int} (h : VoP zs) : ∀ (k s : Nat), s < 2 ^ zs.length → idB zs (s : Int) = true → (pL (msOf st zs) zs k s).Nodup
  | 0, s, _, _ => by rw [pL]; split <;> simp
  | k + 1, s, hs, hi => by
    rw [pL]
    unfold List.Nodup
    rw [List.pairwise_flatMap]
    constructor
    · intro t ht
      obtain ⟨t1, t2⟩ := mem_idl.1 ht
      split
      · rw [List.pairwise_map]
        refine (pL_nodup h k t t1 t2).imp_of_mem fun {g1 g2} m1 m2 hne e => hne ?_
        obtain ⟨p1, p2, -, -⟩ := (mem_pL h k t t1 t2 g1).1 m1
        obtain ⟨q1, q2, -, -⟩ := (mem_pL h k t t1 t2 g2).1 m2
        apply List.ext_getElem (by omega)
        intro i j1 j2
        have hx : i < zs.length := by omega
        have e' : atG (rai zs.length s t k g1) i = atG (rai zs.length s t k g2) i := by rw [e]
        rw [rai_at _ hx, rai_at _ hx] at e'
        have : atG g1 i = atG g2 i := by
          cases hb : t.testBit i
          · rw [p2 i hx hb, q2 i hx hb]
          · rw [hb] at e'; simpa using e'
        simpa [atG, j1, j2] using this
      · exact List.Pairwise.nil
    · refine List.Pairwise.imp_of_mem ?_ (show (idl zs).Nodup from List.Pairwise.filter _ (List.nodup_range (n := 2 ^ zs.length)))
      intro t u ht hu htu g1 h1 g2 h2 e
      subst e
      obtain ⟨t1, t2⟩ := mem_idl.1 ht
      obtain ⟨u1, u2⟩ := mem_idl.1 hu
      split at h1
      · rename_i i1
        split at h2
        · rename_i i2
          unfold inB' at i1 i2
          rw [Bool.and_eq_true, in_iff] at i1 i2
          obtain ⟨a, ha, ea⟩ := List.mem_map.1 h1
          obtain ⟨b, hb, eb⟩ := List.mem_map.1 h2
          obtain ⟨-, -, a3, -⟩ := (mem_pL h k t t1 t2 a).1 ha
          obtain ⟨-, -, b3, -⟩ := (mem_pL h k u u1 u2 b).1 hb
          refine htu (Nat.eq_of_testBit_eq fun j => ?_)
          have key : ∀ {p q : Nat} {gp gq : List Int}, p < 2 ^ zs.length → (∀ j, p.testBit j = true → s.testBit j = true) → (∀ x, x < zs.length → p.testBit x = true → 1 ≤ atG gp x ∧ atG gp x ≤ k) → rai zs.length s p k gp = g1 → rai zs.length s q k gq = g1 → p.testBit j = true → q.testBit j = true := fun {p q gp gq} hp hsub h3 e1 e2 hj => by
            have hjn : j < zs.length := bit_lt hp hj
            have v1 : atG g1 j = atG gp j := by rw [← e1, rai_at _ hjn, hj]; simp
            cases hq : q.testBit j
            · have v2 : atG g1 j = (k : Int) + 1 := by rw [← e2, rai_at _ hjn, hq, hsub j hj]; rfl
              have := h3 j hjn hj
              omega
            · rfl
          rw [Bool.eq_iff_iff]
          exact ⟨key t1 i1.1 a3 ea eb, key u1 i2.1 b3 eb ea⟩
        · simp at h2
      · simp at h1
/-- Both counts are one. -/
theorem num_both {st : Bool} {zs : List Int} (h : VoP zs) (k : Nat) : mN st zs k zs.length [] = pN (msOf st zs) zs k (2 ^ zs.length - 1) := by
  have hp : 0 < (2 : Nat) ^ zs.length := Nat.pow_pos (by decide)
  have hall : ∀ j, (2 ^ zs.length - 1 : Nat).testBit j = decide (j < zs.length) := fun j => by rw [Nat.testBit_two_pow_sub_one]
  have hlt : 2 ^ zs.length - 1 < 2 ^ zs.length := by omega
  have hid : idB zs ((2 ^ zs.length - 1 : Nat) : Int) = true := (idN_iff h hlt).2 fun a b _ hab => by
    rw [hall]
    exact decide_eq_true (upw_lt.1 hab).1
  rw [← mL_len, ← pL_len]
  have hsame : ∀ g, g ∈ mL st zs k zs.length [] ↔ g ∈ pL (msOf st zs) zs k (2 ^ zs.length - 1) := fun g => by
    rw [mem_mL, mem_pL h k _ hlt hid]
    simp only [List.length_nil, Nat.zero_add]
    constructor
    · rintro ⟨h1, -, h3⟩
      refine ⟨h1, fun x hx hb => ?_, fun x hx _ => ?_, fun x y hx hy hxy => ?_⟩
      · rw [hall, decide_eq_false_iff_not] at hb; omega
      · have := h3 x (by omega) (by omega)
        exact ⟨this.1, this.2.1⟩
      · rw [hall, decide_eq_true_iff] at hx hy
        have hne : x ≠ y := fun e => by subst e; exact h.irr (upw_lt.1 hxy)
        rcases Nat.lt_or_gt_of_ne hne with hlt | hlt
        · have := (h3 y (by omega) (by omega)).2.2 x hlt
          unfold twB at this
          rw [hxy] at this
          simp only [Bool.not_true, Bool.false_or, Bool.and_eq_true] at this
          exact this.1
        · have := (h3 x (by omega) (by omega)).2.2 y hlt
          unfold twB at this
          rw [hxy] at this
          simp only [Bool.not_true, Bool.false_or, Bool.and_eq_true] at this
          exact this.2
    · rintro ⟨h1, -, h3, h4⟩
      refine ⟨h1, fun a ha => by omega, fun a _ ha => ?_⟩
      have hb : ∀ x, x < zs.length → (2 ^ zs.length - 1 : Nat).testBit x = true := fun x hx => by rw [hall]; exact decide_eq_true hx
      have := h3 a (by omega) (hb a (by omega))
      refine ⟨this.1, this.2, fun b hba => ?_⟩
      unfold twB
      rw [Bool.and_eq_true]
      constructor
      · cases e : upw zs b a
        · rfl
        · simpa using h4 b a (hb b (by omega)) (hb a (by omega)) e
      · cases e : upw zs a b
        · rfl
        · simpa using h4 a b (hb a (by omega)) (hb b (by omega)) e
  have l1 := inj_len (fun g : List Int => g) _ _ (mL_nodup st zs k zs.length []) (fun g hg => (hsame g).1 hg) (fun _ _ _ _ e => e)
  have l2 := inj_len (fun g : List Int => g) _ _ (pL_nodup (st := st) h k _ hlt hid) (fun g hg => (hsame g).2 hg) (fun _ _ _ _ e => e)
  omega
end Go.Proofs.Ytcadmjpkgnbodaa

/- Numberings: what the own laws of LineSums and FallsBelow ask of them (mathematics). -/
namespace Go.Proofs.Ytcadmjpkgnbodaa

/-- What is counted: all the items numbered up to k, as it may be. -/
def nuL (st : Bool) (zs : List Int) (k : Nat) : List (List Int) := mL st zs k zs.length []
def nuN (st : Bool) (zs : List Int) (k : Nat) : Nat := mN st zs k zs.length []
theorem nuL_len (st : Bool) (zs : List Int) (k : Nat) : (nuL st zs k).length = nuN st zs k := mL_len st zs k _ _
theorem nuL_nodup (st : Bool) (zs : List Int) (k : Nat) : (nuL st zs k).Nodup := mL_nodup st zs k _ _
theorem mem_nuL {st : Bool} {zs : List Int} (h : VoP zs) {k : Nat} {g : List Int} : g ∈ nuL st zs k ↔ g.length = zs.length ∧ (∀ a, a < zs.length → 1 ≤ atG g a ∧ atG g a ≤ k) ∧ ∀ a b, lt zs a b → cmpB st (atG g a) (atG g b) = true := by
  unfold nuL
  rw [mem_mL]
  simp only [List.length_nil, Nat.zero_add]
  constructor
  · rintro ⟨h1, -, h3⟩
    refine ⟨h1, fun a ha => ⟨(h3 a (by omega) (by omega)).1, (h3 a (by omega) (by omega)).2.1⟩, fun x y hl => ?_⟩
    have hx := hl.1
    have hy := h.lt_n hl
    have hu := upw_lt.2 hl
    have hne : x ≠ y := fun e => by subst e; exact h.irr hl
    rcases Nat.lt_or_gt_of_ne hne with hlt | hlt
    · have := (h3 y (by omega) (by omega)).2.2 x hlt
      unfold twB at this
      rw [hu] at this
      simp only [Bool.not_true, Bool.false_or, Bool.and_eq_true] at this
      exact this.1
    · have := (h3 x (by omega) (by omega)).2.2 y hlt
      unfold twB at this
      rw [hu] at this
      simp only [Bool.not_true, Bool.false_or, Bool.and_eq_true] at this
      exact this.2
  · rintro ⟨h1, h2, h3⟩
    refine ⟨h1, fun a ha => by omega, fun a _ ha => ⟨(h2 a (by omega)).1, (h2 a (by omega)).2, fun b hba => ?_⟩⟩
    unfold twB
    rw [Bool.and_eq_true]
    constructor
    · cases e : upw zs b a
      · rfl
      · simpa using h3 b a (upw_lt.1 e)
    · cases e : upw zs a b
      · rfl
      · simpa using h3 a b (upw_lt.1 e)
/-- Numbers turned round. -/
def flipG (k : Nat) (g : List Int) : List Int := g.map fun x => (k : Int) + 1 - x
theorem flip_at {k : Nat} {g : List Int} {a : Nat} (ha : a < g.length) : atG (flipG k g) a = (k : Int) + 1 - atG g a := by
  unfold flipG atG
  rw [List.getElem?_map, List.getElem?_eq_getElem ha]; rfl
theorem map_inj' {f : Int → Int} (hf : ∀ x y, f x = f y → x = y) : ∀ l m : List Int, l.map f = m.map f → l = m
  | [], [], _ => rfl
  | [], _ :: _, h => by simp at h
  | _ :: _, [], h => by simp at h
  | x :: l, y :: m, h => by
    rw [List.map_cons, List.map_cons, List.cons.injEq] at h
    rw [hf x y h.1, map_inj' hf l m h.2]
theorem cmp_flip (st : Bool) (c x y : Int) : cmpB st (c - y) (c - x) = cmpB st x y := by
  unfold cmpB
  cases st
  · simp only [Bool.false_eq_true, if_false]; rw [Bool.eq_iff_iff, decide_eq_true_iff, decide_eq_true_iff]; omega
  · simp only [if_true]; rw [Bool.eq_iff_iff, decide_eq_true_iff, decide_eq_true_iff]; omega
theorem nuN_le {st : Bool} {zs : List Int} (h : VoP zs) (k : Nat) : nuN st zs k ≤ nuN st (du zs) k := by
  rw [← nuL_len, ← nuL_len]
  refine inj_len (flipG k) _ _ (nuL_nodup _ _ _) (fun g hg => ?_) (fun g1 h1 g2 h2 e => ?_)
  · obtain ⟨h1, h2, h3⟩ := (mem_nuL h).1 hg
    refine (mem_nuL (du_vo h)).2 ⟨by unfold flipG; rw [List.length_map, h1, du_len], fun a ha => ?_, fun a b hl => ?_⟩
    · rw [du_len] at ha
      rw [flip_at (by omega)]
      have := h2 a ha
      omega
    · have hl' := (du_lt h b a).1 hl
      have hb := hl'.1
      have ha := h.lt_n hl'
      rw [flip_at (by omega), flip_at (by omega), cmp_flip]
      exact h3 b a hl'
  · unfold flipG at e
    exact map_inj' (fun x y hxy => by omega) _ _ e
/-- The order turned round is numbered in as many ways. -/
theorem nuN_du {st : Bool} {zs : List Int} (h : VoP zs) (k : Nat) : nuN st (du zs) k = nuN st zs k := by
  have h1 := nuN_le (st := st) h k
  have h2 := nuN_le (st := st) (du_vo h) k
  rw [du_du h] at h2
  omega
/-- More numbers, more ways. -/
theorem nuN_more {st : Bool} {zs : List Int} (h : VoP zs) {k k' : Nat} (hk : k ≤ k') : nuN st zs k ≤ nuN st zs k' := by
  rw [← nuL_len, ← nuL_len]
  refine inj_len (fun g => g) _ _ (nuL_nodup _ _ _) (fun g hg => ?_) (fun _ _ _ _ e => e)
  obtain ⟨h1, h2, h3⟩ := (mem_nuL h).1 hg
  exact (mem_nuL h).2 ⟨h1, fun a ha => ⟨(h2 a ha).1, by have := (h2 a ha).2; omega⟩, h3⟩
/-- Growing upward is fewer ways. -/
theorem nuN_strict {zs : List Int} (h : VoP zs) (k : Nat) : nuN true zs k ≤ nuN false zs k := by
  rw [← nuL_len, ← nuL_len]
  refine inj_len (fun g => g) _ _ (nuL_nodup _ _ _) (fun g hg => ?_) (fun _ _ _ _ e => e)
  obtain ⟨h1, h2, h3⟩ := (mem_nuL h).1 hg
  refine (mem_nuL h).2 ⟨h1, h2, fun a b hl => ?_⟩
  have := h3 a b hl
  simp [cmpB] at this ⊢
  omega
/-- There is a way just if there are as many numbers as the longest chain has items. -/
theorem nuN_none {zs : List Int} (h : VoP zs) (k : Nat) : nuN true zs k = 0 ↔ (k : Int) < longI zs := by
  rw [← nuL_len]
  constructor
  · intro h0
    have hnil := List.eq_nil_of_length_eq_zero h0
    rcases Int.lt_or_le (k : Int) (longI zs) with hk | hk
    · exact hk
    · exfalso
      have : ((List.range zs.length).map fun a => hgt zs a + 1) ∈ nuL true zs k := by
        have hat : ∀ a, a < zs.length → atG ((List.range zs.length).map fun a => hgt zs a + 1) a = hgt zs a + 1 := fun a ha => by simp [atG, ha]
        refine (mem_nuL h).2 ⟨by simp, fun a ha => ?_, fun a b hl => ?_⟩
        · rw [hat a ha]
          have h1 := hgt_nn zs a
          have h2 := longI_gt ha
          omega
        · rw [hat a hl.1, hat b (h.lt_n hl)]
          have := hgt_up h hl
          simp [cmpB]; omega
      rw [hnil] at this
      simp at this
  · intro hk
    refine Nat.eq_zero_of_not_pos fun hpos => ?_
    obtain ⟨g, hg⟩ := List.exists_mem_of_length_pos hpos
    obtain ⟨h1, h2, h3⟩ := (mem_nuL h).1 hg
    have hup : ∀ (m b : Nat), rank zs b ≤ m → b < zs.length → hgt zs b + 1 ≤ atG g b := fun m => by
      induction m with
      | zero =>
        intro b hr hb
        rcases hgt_eq h hb with e | ⟨a, hl, e⟩
        · rw [e]; have := (h2 b hb).1; omega
        · have := rank_lt h hl; omega
      | succ m ih =>
        intro b hr hb
        rcases hgt_eq h hb with e | ⟨a, hl, e⟩
        · rw [e]; have := (h2 b hb).1; omega
        · have h4 := ih a (by have := rank_lt h hl; omega) hl.1
          have h5 := h3 a b hl
          simp [cmpB] at h5
          omega
    unfold longI at hk
    rcases maxL_eq (hgt zs) (List.range zs.length) with e | ⟨a, ha, e⟩
    · rw [e] at hk; omega
    · have ha' := List.mem_range.1 ha
      have h4 := hup _ a (Nat.le_refl _) ha'
      have h5 := (h2 a ha').2
      rw [e] at hk
      omega
/-- One number has one way. -/
theorem nuN_one {zs : List Int} (h : VoP zs) : nuN false zs 1 = 1 := by
  rw [← nuL_len]
  have hone : ∀ g, g ∈ nuL false zs 1 ↔ g = List.replicate zs.length 1 := fun g => by
    rw [mem_nuL h]
    constructor
    · rintro ⟨h1, h2, -⟩
      apply List.ext_getElem
      · simp [h1]
      · intro i j1 j2
        have := h2 i (by omega)
        have e : atG g i = g[i] := by simp [atG, j1]
        rw [e] at this
        simp
        omega
    · rintro rfl
      have hat : ∀ a, a < zs.length → atG (List.replicate zs.length 1) a = 1 := fun a ha => by simp [atG, ha]
      refine ⟨by simp, fun a ha => by rw [hat a ha]; omega, fun a b hl => by rw [hat a hl.1, hat b (h.lt_n hl)]; simp [cmpB]⟩
  have l1 := inj_len (fun g : List Int => g) (nuL false zs 1) [List.replicate zs.length 1] (nuL_nodup _ _ _) (fun g hg => by rw [(hone g).1 hg]; simp) (fun _ _ _ _ e => e)
  have l2 := inj_len (fun g : List Int => g) [List.replicate zs.length 1] (nuL false zs 1) (by simp) (fun g hg => by rw [List.mem_singleton] at hg; exact (hone g).2 hg) (fun _ _ _ _ e => e)
  simp at l1 l2
  omega
theorem sum_ones {α : Type} (g : α → Nat) : ∀ l : List α, (∀ x ∈ l, g x = 1) → (l.map g).sum = l.length
  | [], _ => rfl
  | x :: l, h => by
    rw [List.map_cons, List.sum_cons, h x (by simp), sum_ones g l fun y hy => h y (by simp [hy]), List.length_cons]; omega
/-- Two numbers have as many ways as there are ideals. -/
theorem nuN_two {zs : List Int} (h : VoP zs) : nuN false zs 2 = ciN zs (2 ^ zs.length - 1) := by
  have h64 : (2 : Nat) ^ zs.length ≤ 64 := Nat.pow_le_pow_right (n := 2) (by decide) h.1
  have hp : 0 < (2 : Nat) ^ zs.length := Nat.pow_pos (by decide)
  have hms : ∀ r, msOf false zs r = true := fun r => rfl
  have hz : idB zs ((0 : Nat) : Int) = true := (idN_iff h hp).2 fun a b hb => by rw [Nat.zero_testBit] at hb; cases hb
  have h1 : ∀ t, t < 2 ^ zs.length → pN (msOf false zs) zs 1 t = 1 := fun t ht => by
    rw [pN]
    have hsplit : ∀ l : List Nat, l.Nodup → (0 : Nat) ∈ l → (l.map fun u => if inB' (msOf false zs) t u then pN (msOf false zs) zs 0 u else 0).sum = 1 := fun l => by
      induction l with
      | nil => intro _ h0; simp at h0
      | cons u l ih =>
        intro hn h0
        rw [List.map_cons, List.sum_cons]
        rw [List.nodup_cons] at hn
        by_cases hu : u = 0
        · subst hu
          have e1 : inB' (msOf false zs) t 0 = true := by
            unfold inB'
            rw [Bool.and_eq_true, in_iff]
            exact ⟨fun j hj => (by rw [Nat.zero_testBit] at hj; cases hj), rfl⟩
          have e2 : (l.map fun u => if inB' (msOf false zs) t u then pN (msOf false zs) zs 0 u else 0).sum = 0 := by
            have : ∀ v ∈ l, (if inB' (msOf false zs) t v then pN (msOf false zs) zs 0 v else 0) = 0 := fun v hv => by
              have : v ≠ 0 := fun e => hn.1 (e ▸ hv)
              simp [pN, this]
            rw [List.map_congr_left this]
            clear this ih hn h0
            induction l with
            | nil => rfl
            | cons v l ih => rw [List.map_cons, List.sum_cons, ih]
          rw [e1, e2]; simp [pN]
        · have h0' : (0 : Nat) ∈ l := (List.mem_cons.1 h0).resolve_left fun e => hu e.symm
          rw [ih hn.2 h0']
          simp [pN, hu]
    exact hsplit _ (List.Pairwise.filter _ (List.nodup_range (n := 2 ^ zs.length))) (mem_idl.2 ⟨hp, hz⟩)
  have hall : ∀ j, (2 ^ zs.length - 1 : Nat).testBit j = decide (j < zs.length) := fun j => by rw [Nat.testBit_two_pow_sub_one]
  have h2 : nuN false zs 2 = (idl zs).length := by
    unfold nuN
    rw [num_both h]
    rw [pN]
    refine sum_ones _ _ fun t ht => ?_
    obtain ⟨t1, -⟩ := mem_idl.1 ht
    have e1 : inB' (msOf false zs) (2 ^ zs.length - 1) t = true := by
      unfold inB'
      rw [Bool.and_eq_true, in_iff]
      exact ⟨fun j hj => by rw [hall]; exact decide_eq_true (bit_lt t1 hj), rfl⟩
    rw [e1, if_pos rfl]
    exact h1 t t1
  rw [h2, ← ideals_ci h]
  unfold idealsR idl setsTo
  rw [vo_true h, if_pos rfl, List.length_map]
end Go.Proofs.Ytcadmjpkgnbodaa

/- slices.Values over a list of sets: an iterator. -/
namespace Go.Proofs.Ytcadmjpkgnbodaa
open Go.RowKit Go.Shelf
attribute [local go_sem] Oper.semAt_some

theorem values_any (A : Option Addr) (n c : Nat) (w : World) :
    Calls Try.prog 127 #[.slice A n c] w fun e w' => e = .returned (.func (.func 141) #[] #[.pointer (some ⟨w.heap.size, 0, none⟩)]) ∧ w' = w.alloc (.cells #[.slice A n c] 37) := by
  go_enter Try.func127, Try.ntmps127
  go_wp2
  go_ret
  exact ⟨rfl, rfl⟩
theorem take_step {L : List Nat} {k : Nat} (hk : k < L.length) : L.take (k + 1) = L.take k ++ [L[k]?.getD 0] ∧ L.take k ++ [L[k]?.getD 0] <+: L := by
  have e : L.take (k + 1) = L.take k ++ [L[k]?.getD 0] := by rw [List.take_succ_eq_append_getElem hk, List.getElem?_eq_getElem hk]; rfl
  exact ⟨e, e ▸ List.take_prefix _ _⟩

set_option maxRecDepth 100000 in
set_option maxHeartbeats 2000000 in
theorem values_iter (A : Option Addr) (n c : Nat) (L : List Nat) (b : Nat) (M : Nat → Prop) (w : World) (hb : Boxed w b 37 (.slice A n c)) (hM : ¬ M b) (hI : Ints w w.heap.size A n (L.map fun x : Nat => (x : Int))) (hMA : ∀ a, A = some a → ¬ M a.block) (hn : n ≤ 64) :
    Iter Try.prog 141 #[.pointer (some ⟨b, 0, none⟩)] encS L M w := fun l J Jx hJ hJx hY h0 => by
  have Hlen := Lib.hid (show L.length = n by have := hI.len; simpa using this)
  have hc := hb.cell
  refine (callsIn_wide (n := 9)).1 ?_
  refine callsIn_of_wp Try.func141 rfl trivial ?_ rfl
  simp only [Try.ntmps141, List.size_toArray, List.length_cons, List.length_nil, Nat.reduceAdd, Nat.reduceSub, Array.replicate_succ, Array.replicate_zero, List.push_toArray, List.append_toArray, List.nil_append, List.cons_append]
  gi_wp2
  clear hc
  gi_loopw [7] (fun i wr => ∃ (k : Nat) (D : Nat → Prop), k ≤ n ∧ i = .int .i64 k ∧ J (L.take k) D wr ∧ (∀ j, D j → w.heap.size ≤ j) ∧ Upd M w wr) (fun i _ => n - (intOf i).toNat)
  case atStart => exact ⟨0, _, by omega, rfl, h0, fun _ e => e.elim, Upd.refl _ _⟩
  case round =>
    obtain ⟨k, D, hk, rfl, hj, hD, hU⟩ := hrel
    have hsz := hU.size
    by_cases hlt : k < n
    · obtain ⟨Hj, hpre⟩ := take_step (L := L) (k := k) (by rw [Hlen.out]; exact hlt)
      have HJ := Lib.hid Hj
      clear Hj
      obtain ⟨bl, off, rfl, hbl, hcs⟩ := hI.at_ hlt
      have hMb : ¬ M bl := hMA ⟨bl, off, none⟩ rfl
      have hck := hU.cell (hcs k hlt) hMb
      rw [show ((L.map fun x : Nat => (x : Int))[k]?.getD 0) = ((L[k]?.getD 0 : Nat) : Int) by rw [List.getElem?_map]; cases L[k]? <;> rfl] at hck
      clear hcs
      obtain ⟨fn, tmps, assign, body, hy, hR⟩ := hY (L.take k) (L[k]?.getD 0) D wr hj hsz hpre 8
      generalize L[k]?.getD 0 = x at *
      gi_wp2_with fail
      refine hR.mono ?_
      rintro e W3 (⟨rfl, D', hJ3, hU3, hD'⟩ | ⟨rfl, D', hJ3, hU3, hD'⟩)
      · have hz3 := hU3.size
        have hU4 : Upd M w W3 := hU.trans' hU3 (fun i hi e => e.elim id (fun e => by have := hD i e; omega))
        have hD4 : ∀ j, D' j → w.heap.size ≤ j := fun j hj => (hD' j hj).elim (hD j) (fun h => by omega)
        gi_wp2
        go_roundw
        case rel => exact ⟨k + 1, D', by omega, by go_num, by rw [HJ.out]; exact hJ3, hD4, hU4⟩
        case measure => simp [intOf]; omega
      · gi_wp2
        refine bodyPost_ret (results_none rfl _ _ _) rfl ?_
        exact ⟨⟨_, rfl⟩, .inr ⟨_, D', hpre, hJ3⟩⟩
    · obtain rfl : k = n := by omega
      have hfull : L.take k = L := by rw [← Hlen.out]; exact List.take_length
      gi_wp2
      go_end0
      exact ⟨⟨_, rfl⟩, .inl ⟨D, by rw [← hfull]; exact hj⟩⟩
end Go.Proofs.Ytcadmjpkgnbodaa

/- Numberings: what the program sums up. -/
namespace Go.Proofs.Ytcadmjpkgnbodaa
open Go.RowKit Go.Shelf
attribute [local go_sem] Oper.semAt_some
attribute [local go_sem, local simp] wide_fn

/-- What tells whether items may share a number: a function value that does so wherever the order stands. -/
def Shares (F : Value) (zs : List Int) (q : Nat) (ms : Int → Bool) : Prop := ∃ f bs, F = .func (.func f) bs #[] ∧ (∀ args w, (callFunc f args).run Try.prog w = .ok (.enter f args) w) ∧
  ∀ (s : Int) (w : World), 0 ≤ s → s < powI zs.length → Arr w q 46 zs → Calls Try.prog f (bs ++ #[.int .i64 s]) w fun e w' => e = .returned (.bool (ms s)) ∧ Below w.heap.size w w'

set_option maxRecDepth 100000 in
set_option maxHeartbeats 4000000 in
theorem more1_any (zs : List Int) (q n : Nat) (F : Value) (ms : Int → Bool) (hF : Shares F zs q ms) (I S C Z s t N : Nat) (v1 : Value) (cs : List Int) (w : World) (hs : s < 64) (hsn : (s : Int) < powI zs.length) (ht : t < 64)
    (bI : Boxed w I 46 (.int .i64 (s : Int))) (bS : w.heap[S]? = some (.cells #[v1, F] 96 (0, 0))) (bC : Boxed w C 22 (.slice (some ⟨Z, 0, none⟩) N N)) (hA : Arr w q 46 zs) (hZ : Arr w Z 3 cs) (hcl : cs.length = N) (htN : t < N) :
    Calls Try.prog 128 #[.int .i64 (t : Int), .pointer (some ⟨I, 0, none⟩), .pointer (some ⟨S, 0, none⟩), .pointer (some ⟨C, 0, none⟩)] w fun e w' => e = .returned (.int .i64 (if inB' ms s t then cs[t]?.getD 0 else 0)) ∧ Below w.heap.size w w' := by
  obtain ⟨f, bs, rfl, hef, hcall⟩ := hF
  have hcI := bI.cell
  have hcC := bC.cell
  have hcF : w.cell? ⟨S, 1, none⟩ = some (.func (.func f) bs #[]) := by rw [cell_of_row _ _ 1 _ _ (0, 0) bS]; rfl
  have hwi := fun w => within_any (t : Int) (s : Int) w (by omega) (by omega) (by omega) (by omega)
  have hless := less_64 (t := t) hs
  have hlb := lessI_bd (s : Int) (t : Int)
  have han : bits .andNot .i64 (s : Int) (t : Int) = lessI (s : Int) (t : Int) := bits_less (by omega) (by omega) (by omega) (by omega)
  have hms := hcall (lessI (s : Int) (t : Int)) w hlb.1 (by have := hlb.2; omega) hA
  clear hsn
  have Hin := Lib.hid (show inB' ms s t = (lessI (t : Int) (s : Int) == 0 && ms (lessI (s : Int) (t : Int))) from rfl)
  generalize lessI (s : Int) (t : Int) = r at *
  obtain ⟨R, hR⟩ : ∃ R : Int, R = (if inB' ms s t then cs[t]?.getD 0 else 0) := ⟨_, rfl⟩
  rw [← hR]
  cases c1 : (lessI (t : Int) (s : Int) == 0)
  · have Hf := Lib.hid (show R = 0 by rw [hR, show inB' ms s t = false by rw [Hin.out, c1]; rfl]; rfl)
    clear hR
    rw [c1] at hwi
    clear c1
    go_enter Try.func128, Try.ntmps128
    go_wp2_with (go_at_call 102; refine (hwi _).mono ?_; rintro e w' ⟨rfl, rfl⟩)
    go_ret
    exact ⟨ret_int (by rw [Hf.out] <;> first | rfl | simp), Below.refl _ _⟩
  · rw [c1] at hwi
    cases c2 : ms r
    · have Hf := Lib.hid (show R = 0 by rw [hR, show inB' ms s t = false by rw [Hin.out, c1, c2]; rfl]; rfl)
      clear hR
      rw [c2] at hms
      clear c1 c2
      go_enter Try.func128, Try.ntmps128
      go_wp2_with (go_at_call 102; refine (hwi _).mono ?_; rintro e w' ⟨rfl, rfl⟩)
      refine hms.mono ?_
      rintro e w' ⟨rfl, hB⟩
      go_wp2_with fail
      go_ret
      exact ⟨ret_int (by rw [Hf.out] <;> first | rfl | simp), hB⟩
    · have Hf := Lib.hid (show R = cs[t]?.getD 0 by rw [hR, show inB' ms s t = true by rw [Hin.out, c1, c2]; rfl]; rfl)
      clear hR
      rw [c2] at hms
      clear c1 c2
      go_enter Try.func128, Try.ntmps128
      go_wp2_with (go_at_call 102; refine (hwi _).mono ?_; rintro e w' ⟨rfl, rfl⟩)
      refine hms.mono ?_
      rintro e w' ⟨rfl, hB⟩
      have hcC2 := ((Below.toUpd hB).boxed bC (fun e => by have := bC.lt; omega)).cell
      have hcZ2 := (hZ.below hB hZ.lt).cell (k := t) (by omega)
      go_wp2_with fail
      go_ret
      exact ⟨ret_int (by rw [Hf.out, List.getElem?_eq_getElem (by omega : t < cs.length)]; rfl), hB⟩

/-! Both function values that there are. -/
set_option maxRecDepth 100000 in
set_option maxHeartbeats 4000000 in
theorem shares_all (zs : List Int) (q : Nat) : Shares (.func (.func 72) #[] #[]) zs q (fun _ => true) := by
  refine ⟨_, _, rfl, enters_of Try.func72 (by kernel_rfl) rfl, ?_⟩
  intro s w h0 h1 hA
  show Calls Try.prog 72 #[.int .i64 s] w _
  go_enter Try.func72, Try.ntmps72
  go_wp2_with fail
  go_ret
  exact ⟨rfl, Below.refl _ _⟩
theorem shares_apart (zs : List Int) (q n c : Nat) (hv : Sets zs) (hn : zs.length = n) : Shares (.func (.func 61) #[.slice (some ⟨q, 0, none⟩) n c] #[]) zs q (apB zs) := by
  refine ⟨_, _, rfl, enters_apart, ?_⟩
  intro s w h0 h1 hA
  exact isApart_any (some ⟨q, 0, none⟩) n c zs s hv w (hA.ints' hA.lt hn) h0 (by rw [← hn]; exact h1)
end Go.Proofs.Ytcadmjpkgnbodaa

/- SignOf: the program's and the model's. -/
namespace Go.Proofs.Ytcadmjpkgnbodaa
open Go.RowKit Go.Shelf
attribute [local go_sem] Oper.semAt_some
attribute [local go_sem, local simp] wide_fn

theorem ends_parts {zs : List Int} {a b : Int} (h : endsB zs a b = true) : VoP zs ∧ ∃ x y : Nat, a = x ∧ b = y ∧ x < zs.length ∧ y < zs.length := by
  unfold endsB isIt inB at h
  simp only [Bool.and_eq_true, decide_eq_true_eq] at h
  obtain ⟨h1, h2, h3⟩ := h
  exact ⟨by simpa [vo] using h1, a.toNat, b.toNat, by omega, by omega, by omega, by omega⟩
theorem signR_no {zs : List Int} {a b : Int} (h : endsB zs a b = false) : signR zs a b = -1000 := by
  unfold endsB at h
  unfold signR; rw [h]; rfl
theorem signR_yes {zs : List Int} {x y : Nat} (h : endsB zs (x : Int) (y : Int) = true) : signR zs (x : Int) (y : Int) = muI zs x y := by
  unfold endsB at h
  unfold signR; rw [h]; rfl

theorem signOf_in {zs : List Int} {n : Nat} (h : zs.length = n) {x y : Nat} (hv : vo zs = true) (hx : x < n) (hy : y < n) : signR zs (x : Int) (y : Int) = muI zs x y := by
  refine signR_yes ?_
  unfold endsB isIt inB
  rw [hv, h, decide_eq_true (by omega), decide_eq_true (by omega)]; rfl
end Go.Proofs.Ytcadmjpkgnbodaa

/- UndoSums: the program's. -/
namespace Go.Proofs.Ytcadmjpkgnbodaa
open Go.RowKit Go.Shelf
attribute [local go_sem] Oper.semAt_some
attribute [local go_sem, local simp] wide_fn

theorem lsum_all (g : Nat → Int) {n : Nat} (hn : n ≤ 6) : lsum g (itemsL (powI n - 1)) = smTo g n := by
  have hp := powI_pos (n : Int)
  rw [← itemsTo_all (n := n) (by omega) hn, lsum_items]
  refine smTo_congr _ fun c hc => ?_
  rw [all_bits', decide_eq_true hc]; rfl

end Go.Proofs.Ytcadmjpkgnbodaa

/- Numberings: withOneMore's sum, and whole. -/
namespace Go.Proofs.Ytcadmjpkgnbodaa
open Go.RowKit Go.Shelf
attribute [local go_sem] Oper.semAt_some
attribute [local go_sem, local simp] wide_fn

/-- A sum over ideals is small where each number is. -/
theorem oneMore_small {zs : List Int} (hn6 : zs.length ≤ 6) {g : Nat → Int} (hg : ∀ t, 0 ≤ g t ∧ g t ≤ 1000000000) (pre : List Nat) (hp : pre <+: idl zs) : -1000000000000 ≤ lsum g pre ∧ lsum g pre ≤ 1000000000000 := by
  have h1 := lsum_small (g := g) (B := 1000000000) (by decide) (fun x => ⟨by have := (hg x).1; omega, (hg x).2⟩) pre
  have h2 := hp.length_le
  have h3 : (idl zs).length ≤ 2 ^ zs.length := by
    unfold idl
    have := List.length_filter_le (fun j : Nat => idB zs (j : Int)) (List.range (2 ^ zs.length))
    simpa using this
  have h4 : 2 ^ zs.length ≤ 2 ^ 6 := Nat.pow_le_pow_right (by decide) hn6
  have h5 : pre.length ≤ 64 := by omega
  have h6 : (pre.length : Int) ≤ 64 := by omega
  omega

set_option maxRecDepth 100000 in
set_option maxHeartbeats 4000000 in
theorem nsum_any (zs : List Int) (q n : Nat) (F : Value) (ms : Int → Bool) (hF : Shares F zs q ms) (hn6 : zs.length ≤ 6) (I S C Z V s N m c : Nat) (A : Option Addr) (v1 : Value) (cs : List Int) (w : World) (hs : s < 64) (hsn : (s : Int) < powI zs.length)
    (bI : Boxed w I 46 (.int .i64 (s : Int))) (bS : w.heap[S]? = some (.cells #[v1, F] 96 (0, 0))) (bC : Boxed w C 22 (.slice (some ⟨Z, 0, none⟩) N N)) (bV : Boxed w V 37 (.slice A m c)) (hV : Ints w w.heap.size A m ((idl zs).map fun x : Nat => (x : Int)))
    (hA : Arr w q 46 zs) (hZ : Arr w Z 3 cs) (hcl : cs.length = N) (hN : 2 ^ zs.length ≤ N) (hcb : ∀ t : Nat, 0 ≤ cs[t]?.getD 0 ∧ cs[t]?.getD 0 ≤ 1000000000) (hm : m ≤ 64) (hm0 : 0 < m) :
    Calls Try.prog 126 #[.func (.func 141) #[] #[.pointer (some ⟨V, 0, none⟩)], .func (.func 128) #[] #[.pointer (some ⟨I, 0, none⟩), .pointer (some ⟨S, 0, none⟩), .pointer (some ⟨C, 0, none⟩)]] w
      fun e W' => e = .returned (.int .i64 (lsum (fun t => if inB' ms s t then cs[t]?.getD 0 else 0) (idl zs))) ∧ Below w.heap.size w W' := by
  have hSl := (Array.getElem?_eq_some_iff.1 bS).1
  have hgb : ∀ t : Nat, 0 ≤ (if inB' ms s t then cs[t]?.getD 0 else 0) ∧ (if inB' ms s t then cs[t]?.getD 0 else 0) ≤ 1000000000 := fun t => by
    have := hcb t
    split <;> omega
  refine (sumOverS_any (gf := 141) (vf := 128) #[.pointer (some ⟨V, 0, none⟩)] #[.pointer (some ⟨I, 0, none⟩), .pointer (some ⟨S, 0, none⟩), .pointer (some ⟨C, 0, none⟩)] (idl zs) (fun t => if inB' ms s t then cs[t]?.getD 0 else 0) w (fun _ => False) (fun i e => e.elim) (fun _ _ => True)
    (enters_of Try.func141 (by kernel_rfl) rfl) (enters_of Try.func128 (by kernel_rfl) rfl)
    (oneMore_small hn6 hgb)
    (fun W1 M' hu1 hM' _ => ?_)
    (fun pre x W hp hi hu => ?_)
    (fun pre X Y hi hz hu => trivial)
    trivial).mono ?_
  · exact values_iter A m c (idl zs) V M' W1 (hu1.boxed bV (fun e => e)) (fun e => (hM' V e).elim (fun e => e) (fun e => by have := bV.lt; omega)) (hV.to (hu1.toBelow (B := w.heap.size) (fun _ e => e.elim) (Nat.le_refl _)) (Nat.le_refl _) hu1.size) (fun a ha e => (hM' _ e).elim (fun e => e) (fun e => by
      obtain ⟨b, off, rfl, hb, -⟩ := hV.2 hm0
      cases ha
      exact absurd hb (Nat.not_lt.2 e))) hm
  · have hx : x ∈ idl zs := hp.subset (by simp)
    have hx2 := (mem_idl.1 hx).1
    have h64 : 2 ^ zs.length ≤ 2 ^ 6 := Nat.pow_le_pow_right (by decide) hn6
    refine (more1_any zs q n F ms hF I S C Z s x N v1 cs W hs hsn (by omega) (hu.boxed bI (fun e => e)) ((hu.block S hSl (fun e => e)).trans bS) (hu.boxed bC (fun e => e)) (hA.upd hu (fun e => e)) (hZ.upd hu (fun e => e)) hcl (by omega)).mono fun e W' h => ⟨h.1, trivial, (Upd.refl _ W).below h.2 (fun k h1 h2 => by omega)⟩
  · rintro e W' ⟨rfl, -, hU⟩
    exact ⟨rfl, hU.toBelow (fun _ e => e.elim) (Nat.le_refl _)⟩
end Go.Proofs.Ytcadmjpkgnbodaa

/- Numberings: withOneMore whole. -/
namespace Go.Proofs.Ytcadmjpkgnbodaa
open Go.RowKit Go.Shelf
attribute [local go_sem] Oper.semAt_some
attribute [local go_sem, local simp] wide_fn

/-- The row under way: the first k sets have their number. -/
def rowMore (g : Nat → Int) (L : List Nat) (N k : Nat) : List Int := (List.range N).map fun s => if s ∈ L.take k then g s else 0
theorem rowMore_zero (g : Nat → Int) (L : List Nat) (N : Nat) : rowMore g L N 0 = List.replicate N 0 := by
  apply List.ext_getElem <;> simp [rowMore]
theorem rowMore_len (g : Nat → Int) (L : List Nat) (N k : Nat) : (rowMore g L N k).length = N := by simp [rowMore]
theorem rowMore_succ (g : Nat → Int) (L : List Nat) (N k : Nat) (hk : k < L.length) : (rowMore g L N k).set (L[k]?.getD 0) (g (L[k]?.getD 0)) = rowMore g L N (k + 1) := by
  obtain ⟨e, -⟩ := take_step hk
  apply List.ext_getElem
  · simp [rowMore]
  · intro i h1 h2
    rw [List.getElem_set]
    simp only [rowMore, List.getElem_map, List.getElem_range, e, List.mem_append, List.mem_singleton]
    by_cases hi : L[k]?.getD 0 = i
    · simp [hi]
    · have hi' : ¬ i = L[k]?.getD 0 := fun e => hi e.symm
      simp [hi, hi']
theorem rowMore_full (g : Nat → Int) (L : List Nat) (N : Nat) {k : Nat} (hk : k = L.length) : rowMore g L N k = (List.range N).map fun s => if s ∈ L then g s else 0 := by
  subst hk; simp [rowMore]

set_option maxRecDepth 100000 in
set_option maxHeartbeats 8000000 in
theorem nmore_any (zs : List Int) (q n : Nat) (F : Value) (ms : Int → Bool) (hF : Shares F zs q ms) (hn6 : zs.length ≤ 6) (Z N m c : Nat) (A : Option Addr) (cs : List Int) (w : World)
    (hV : Ints w w.heap.size A m ((idl zs).map fun x : Nat => (x : Int))) (hA : Arr w q 46 zs) (hZ : Arr w Z 3 cs) (hcl0 : cs.length = N) (hN : 2 ^ zs.length ≤ N) (hN64 : N ≤ 64) (hcb : ∀ t : Nat, 0 ≤ cs[t]?.getD 0 ∧ cs[t]?.getD 0 ≤ 1000000000) (hm : m ≤ 64) (hm0 : 0 < m) :
    Calls Try.prog 101 #[.agg #[.slice A m c, F], .slice (some ⟨Z, 0, none⟩) N N] w fun e W' => ∃ Z', e = .returned (.slice (some ⟨Z', 0, none⟩) N N) ∧ w.heap.size ≤ Z' ∧
      Arr W' Z' 3 ((List.range N).map fun s => if s ∈ idl zs then lsum (fun t => if inB' ms s t then cs[t]?.getD 0 else 0) (idl zs) else 0) ∧ Below w.heap.size w W' := by
  have hmk := run_make_row' (P := Try.prog) 22 3 (.int .i64 0) 8 Try.underlying22 infoInt rfl .i64 .i64 N (by omega) (by omega)
  obtain ⟨f, bs, hFe, -, -⟩ := id hF
  subst hFe
  obtain ⟨bA, off, rfl, hbA, hcsA⟩ := hV.2 hm0
  have hVl := hV.1
  have Hil := Lib.hid (show (idl zs).length = m by simpa using hVl)
  have Hcl := Lib.hid hcl0
  clear hVl hcl0
  have hZw := hZ.lt
  have hqw := hA.lt
  have HN := Lib.hid (show ∀ s, s ∈ idl zs → s < N ∧ (s : Int) < powI zs.length from fun s hs => by
    have := (mem_idl.1 hs).1
    exact ⟨by omega, by rw [show powI (zs.length : Int) = ((2 ^ zs.length : Nat) : Int) by simp [powI]]; exact Int.ofNat_lt.2 this⟩)
  have HN2 := Lib.hid hN
  clear hN
  go_enter Try.func101, Try.ntmps101
  go_wp2
  have bS1 := heap_alloc_new w (.cells #[Value.slice (some ⟨bA, off, none⟩) m c, .func (.func f) bs #[]] 96)
  have hz1 : (w.alloc (.cells #[Value.slice (some ⟨bA, off, none⟩) m c, .func (.func f) bs #[]] 96)).heap.size = w.heap.size + 1 := by simp
  have hu1 : Upd (fun _ => False) w (w.alloc (.cells #[Value.slice (some ⟨bA, off, none⟩) m c, .func (.func f) bs #[]] 96)) := (Upd.refl _ w).alloc _
  obtain ⟨W1, hW1⟩ : ∃ W1, w.alloc (.cells #[Value.slice (some ⟨bA, off, none⟩) m c, .func (.func f) bs #[]] 96) = W1 := ⟨_, rfl⟩
  rw [hW1] at bS1 hz1 hu1 ⊢
  clear hW1
  have bC2 := Boxed.new W1 22 (.slice (some ⟨Z, 0, none⟩) N N)
  have hz2 : (W1.alloc (.cells #[Value.slice (some ⟨Z, 0, none⟩) N N] 22)).heap.size = W1.heap.size + 1 := by simp
  have hu2 : Upd (fun _ => False) W1 (W1.alloc (.cells #[Value.slice (some ⟨Z, 0, none⟩) N N] 22)) := (Upd.refl _ W1).alloc _
  obtain ⟨W2, hW2⟩ : ∃ W2, W1.alloc (.cells #[Value.slice (some ⟨Z, 0, none⟩) N N] 22) = W2 := ⟨_, rfl⟩
  rw [hW2] at bC2 hz2 hu2 ⊢
  clear hW2
  have aZ3 := Arr.new W2 3 N
  have hz3 : (W2.alloc (.cells (madeCells #[.int .i64 0] N) 3)).heap.size = W2.heap.size + 1 := by simp
  have hu3 : Upd (fun _ => False) W2 (W2.alloc (.cells (madeCells #[.int .i64 0] N) 3)) := (Upd.refl _ W2).alloc _
  obtain ⟨W3, hW3⟩ : ∃ W3, W2.alloc (.cells (madeCells #[.int .i64 0] N) 3) = W3 := ⟨_, rfl⟩
  rw [hW3] at aZ3 hz3 hu3 ⊢
  clear hW3 hmk
  have hU3 := (hu1.trans' hu2 (fun i hi e => e)).trans' hu3 (fun i hi e => e)
  have bS3 := ((hu2.trans' hu3 (fun i hi e => e)).block w.heap.size (by omega) (fun e => e)).trans bS1
  have bC3 := hu3.boxed bC2 (fun e => e)
  have hA3 := hA.upd hU3 (fun e => e)
  have hZ3 := hZ.upd hU3 (fun e => e)
  have hV3 : Ints W3 w.heap.size (some ⟨bA, off, none⟩) m ((idl zs).map fun x : Nat => (x : Int)) := hV.below (hU3.toBelow (fun _ e => e.elim) (Nat.le_refl _))
  rw [show W1.heap.size = w.heap.size + 1 from hz1] at bC3
  rw [show W2.heap.size = w.heap.size + 1 + 1 by omega] at aZ3
  obtain ⟨G, hG⟩ : ∃ G : Nat → Int, G = fun s => lsum (fun t => if inB' ms s t then cs[t]?.getD 0 else 0) (idl zs) := ⟨_, rfl⟩
  have HG := Lib.hid (show ∀ s, lsum (fun t => if inB' ms s t then cs[t]?.getD 0 else 0) (idl zs) = G s from fun s => by rw [hG])
  clear hG
  have hZl : Z < w.heap.size := hZw
  have hql : q < w.heap.size := hqw
  clear bS1 bC2 hu1 hu2 hu3 hA hZ hV hcsA
  go_loopw [14] (fun i wr => ∃ k : Nat, k ≤ m ∧ i = .int .i64 k ∧ Arr wr (w.heap.size + 1 + 1) 3 (rowMore G (idl zs) N k) ∧ Upd (fun i => i = w.heap.size + 1 + 1) W3 wr) (fun i _ => m - (intOf i).toNat)
  case atStart => exact ⟨0, by omega, rfl, by rw [rowMore_zero]; exact aZ3, Upd.refl _ _⟩
  case round =>
    obtain ⟨k, hk, rfl, hR, hU⟩ := hrel
    have hsr := hU.size
    by_cases hlt : k < m
    · have hVr : Ints wr w.heap.size (some ⟨bA, off, none⟩) m ((idl zs).map fun x : Nat => (x : Int)) := hV3.below (hU.toBelow (B := w.heap.size) (fun j e => by omega) (by omega))
      obtain ⟨b', off', e', -, hcr⟩ := hVr.2 hm0
      cases e'
      have hck := hcr k hlt
      clear hcr
      obtain ⟨s, hs⟩ : ∃ s : Nat, (idl zs)[k]?.getD 0 = s := ⟨_, rfl⟩
      have hsm : s ∈ idl zs := by rw [← hs, List.getElem?_eq_getElem (by rw [Hil.out]; exact hlt)]; exact List.getElem_mem _
      have hse : ((idl zs).map fun x : Nat => (x : Int))[k]?.getD 0 = (s : Int) := by rw [← hs]; simp [List.getElem?_map, List.getElem?_eq_getElem (show k < (idl zs).length by rw [Hil.out]; exact hlt)]
      rw [hse] at hck
      have Hrs := Lib.hid (show (rowMore G (idl zs) N k).set s (G s) = rowMore G (idl zs) N (k + 1) by rw [← hs]; exact rowMore_succ G (idl zs) N k (by rw [Hil.out]; exact hlt))
      clear hse hs
      obtain ⟨hsN, hsp⟩ := HN.out s hsm
      clear hsm
      go_wp2
      have bI := Boxed.new wr 46 (.int .i64 (s : Int))
      have hui : Upd (fun _ => False) wr (wr.alloc (.cells #[Value.int .i64 (s : Int)] 46)).drew := ((Upd.refl _ wr).alloc _).drew
      have bId : Boxed (wr.alloc (.cells #[Value.int .i64 (s : Int)] 46)).drew wr.heap.size 46 (.int .i64 (s : Int)) := bI
      have hzd : wr.heap.size < (wr.alloc (.cells #[Value.int .i64 (s : Int)] 46)).drew.heap.size := by show _ < (wr.alloc _).heap.size; simp
      refine region_T (S := (fun w' => w'.cell? ⟨wr.heap.size, 0, none⟩ = some (.int .i64 (s : Int)) ∧ w'.cell? ⟨w.heap.size, 0, none⟩ = some (.slice (some ⟨bA, off, none⟩) m c))) 8 (by kernel_rfl) ?_
      obtain ⟨Wd, hWd⟩ : ∃ Wd, (wr.alloc (.cells #[Value.int .i64 (s : Int)] 46)).drew = Wd := ⟨_, rfl⟩
      rw [hWd] at hui bId hzd ⊢
      clear hWd bI
      have hUd := hU.trans' hui (fun i hi e => e.elim)
      have bSd := (hUd.block w.heap.size (by omega) (fun e => by omega)).trans bS3
      have hcSd : Wd.cell? ⟨w.heap.size, 0, none⟩ = some (.slice (some ⟨bA, off, none⟩) m c) := by rw [cell_of_row _ _ 0 _ _ (0, 0) bSd]; rfl
      have hSd : (fun w' => w'.cell? ⟨wr.heap.size, 0, none⟩ = some (.int .i64 (s : Int)) ∧ w'.cell? ⟨w.heap.size, 0, none⟩ = some (.slice (some ⟨bA, off, none⟩) m c)) Wd := ⟨bId.cell, hcSd⟩
      refine anyT_take (i := 0) (oi := ?oi0a) (v := .slice (some ⟨w.heap.size + 1 + 1, 0, none⟩) N N) ?hi0a (by kernel_rfl) ?hq0a ?hy0a (by assumption) ?rest0a
      case hi0a => (simp only [List.getElem?_toArray, List.getElem?_cons_zero]; first | done | rfl)
      case hq0a => first | exact fun _ _ _ h => h | exact fun _ _ _ h => (by cases h.1)
      case hy0a => (refine Or.inl ⟨by rfl, ?_⟩; intro wz hSw; obtain ⟨hS1, hS2⟩ := hSw; go_simp; first | done | with_reducible rfl | simp | omega)
      try simp only [Act.put, List.setIfInBounds_toArray, List.set_cons_zero, List.set_cons_succ]
      refine anyT_take (i := 1) (oi := ?oi1a) (v := .int .i64 (s : Int)) ?hi1a (by kernel_rfl) ?hq1a ?hy1a (by assumption) ?rest1a
      case hi1a => (simp only [List.getElem?_toArray, List.getElem?_cons_succ, List.getElem?_cons_zero]; first | done | rfl)
      case hq1a => first | exact fun _ _ _ h => h | exact fun _ _ _ h => (by cases h.1)
      case hy1a => (refine Or.inl ⟨by rfl, ?_⟩; intro wz hSw; obtain ⟨hS1, hS2⟩ := hSw; go_simp; first | done | with_reducible rfl | simp | omega)
      try simp only [Act.put, List.setIfInBounds_toArray, List.set_cons_zero, List.set_cons_succ]
      refine anyT_take (i := 2) (oi := ?oi2a) (v := .pointer (some ⟨w.heap.size, 0, none⟩)) ?hi2a (by kernel_rfl) ?hq2a ?hy2a (by assumption) ?rest2a
      case hi2a => (simp only [List.getElem?_toArray, List.getElem?_cons_succ, List.getElem?_cons_zero]; first | done | rfl)
      case hq2a => first | exact fun _ _ _ h => h | exact fun _ _ _ h => (by cases h.1)
      case hy2a => (refine Or.inl ⟨by rfl, ?_⟩; intro wz hSw; obtain ⟨hS1, hS2⟩ := hSw; go_simp; first | done | with_reducible rfl | simp | omega)
      try simp only [Act.put, List.setIfInBounds_toArray, List.set_cons_zero, List.set_cons_succ]
      refine anyT_take (i := 3) (oi := ?oi3a) (v := .slice (some ⟨bA, off, none⟩) m c) ?hi3a (by kernel_rfl) ?hq3a ?hy3a (by assumption) ?rest3a
      case hi3a => (simp only [List.getElem?_toArray, List.getElem?_cons_succ, List.getElem?_cons_zero]; first | done | rfl)
      case hq3a => first | exact fun _ _ _ h => h | exact fun _ _ _ h => (by cases h.1)
      case hy3a => (refine Or.inl ⟨by rfl, ?_⟩; intro wz hSw; obtain ⟨hS1, hS2⟩ := hSw; go_simp; first | done | with_reducible rfl | simp | omega)
      try simp only [Act.put, List.setIfInBounds_toArray, List.set_cons_zero, List.set_cons_succ]
      refine anyT_take (i := 5) (oi := ?oi5a) (v := .func (.func 128) #[] #[.pointer (some ⟨wr.heap.size, 0, none⟩), .pointer (some ⟨w.heap.size, 0, none⟩), .pointer (some ⟨w.heap.size + 1, 0, none⟩)]) ?hi5a (by kernel_rfl) ?hq5a ?hy5a (by assumption) ?rest5a
      case hi5a => (simp only [List.getElem?_toArray, List.getElem?_cons_succ, List.getElem?_cons_zero]; first | done | rfl)
      case hq5a => first | exact fun _ _ _ h => h | exact fun _ _ _ h => (by cases h.1)
      case hy5a => (refine Or.inl ⟨by rfl, ?_⟩; intro wz hSw; obtain ⟨hS1, hS2⟩ := hSw; go_simp; first | done | with_reducible rfl | simp | omega)
      try simp only [Act.put, List.setIfInBounds_toArray, List.set_cons_zero, List.set_cons_succ]
      refine anyT_one (i := 4) (by kernel_rfl) rfl (fun K' hK => ?_)
      go_simp
      refine (values_any (some ⟨bA, off, none⟩) m c Wd).mono ?_
      rintro e w' ⟨rfl, rfl⟩
      have bV := Boxed.new Wd 37 (.slice (some ⟨bA, off, none⟩) m c)
      have hu5 := (Upd.refl (fun _ => False) Wd).alloc (.cells #[Value.slice (some ⟨bA, off, none⟩) m c] 37)
      obtain ⟨W5, hW5⟩ : ∃ W5, Wd.alloc (.cells #[Value.slice (some ⟨bA, off, none⟩) m c] 37) = W5 := ⟨_, rfl⟩
      rw [hW5] at bV hu5 ⊢
      clear hW5
      have hsz5 := hu5.size
      have hU5 := hUd.trans' hu5 (fun i hi e => e.elim)
      have bI5 := hu5.boxed bId (fun e => e)
      have bS5 := (hu5.block w.heap.size (by omega) (fun e => e)).trans bSd
      have hcS5 : W5.cell? ⟨w.heap.size, 0, none⟩ = some (.slice (some ⟨bA, off, none⟩) m c) := by rw [cell_of_row _ _ 0 _ _ (0, 0) bS5]; rfl
      have hS5 : (fun w' => w'.cell? ⟨wr.heap.size, 0, none⟩ = some (.int .i64 (s : Int)) ∧ w'.cell? ⟨w.heap.size, 0, none⟩ = some (.slice (some ⟨bA, off, none⟩) m c)) W5 := ⟨bI5.cell, hcS5⟩
      have bC5 := hU5.boxed bC3 (fun e => by omega)
      have hA5 := hA3.upd hU5 (fun e => by omega)
      have hZ5 := hZ3.upd hU5 (fun e => by omega)
      have hR5 := (hR.upd hui (fun e => e)).upd hu5 (fun e => e)
      have hV5 : Ints W5 W5.heap.size (some ⟨bA, off, none⟩) m ((idl zs).map fun x : Nat => (x : Int)) := hV3.to (hU5.toBelow (B := w.heap.size) (fun j e => by omega) (by omega)) (Nat.le_refl _) (by have := hU5.size; omega)
      refine hK.out _ _ (fun _ => hS5) ?_
      clear hK K'
      try simp only [Act.put, List.setIfInBounds_toArray, List.set_cons_zero, List.set_cons_succ]
      refine anyT_one (i := 6) (by kernel_rfl) rfl (fun K' hK => ?_)
      go_simp
      have hns := nsum_any zs q n (.func (.func f) bs #[]) ms hF hn6 wr.heap.size w.heap.size (w.heap.size + 1) Z Wd.heap.size s N m c (some ⟨bA, off, none⟩) _ cs W5 (by omega) hsp bI5 bS5 bC5 bV hV5 hA5 hZ5 Hcl.out HN2.out hcb hm hm0
      rw [HG.out] at hns
      refine hns.mono ?_
      clear hns
      rintro e w6 ⟨rfl, hB6⟩
      have hu6 := (Upd.refl (fun _ => False) W5).below hB6 (fun j h1 h2 => by omega)
      have hU6 := hU5.trans' hu6 (fun i hi e => e.elim)
      have bS6 := (hu6.block w.heap.size (by omega) (fun e => e)).trans bS5
      have hcS6 : w6.cell? ⟨w.heap.size, 0, none⟩ = some (.slice (some ⟨bA, off, none⟩) m c) := by rw [cell_of_row _ _ 0 _ _ (0, 0) bS6]; rfl
      have hS6 : (fun w' => w'.cell? ⟨wr.heap.size, 0, none⟩ = some (.int .i64 (s : Int)) ∧ w'.cell? ⟨w.heap.size, 0, none⟩ = some (.slice (some ⟨bA, off, none⟩) m c)) w6 := ⟨(hu6.boxed bI5 (fun e => e)).cell, hcS6⟩
      have hR6 := hR5.upd hu6 (fun e => e)
      have hcs := hR6.cell (k := s) (by rw [rowMore_len]; exact hsN)
      have hfs := hR6.frozen s
      refine hK.out _ _ (fun _ => hS6) ?_
      clear hK K'
      try simp only [Act.put, List.setIfInBounds_toArray, List.set_cons_zero, List.set_cons_succ]
      refine anyT_one (i := 7) (by kernel_rfl) rfl (fun K' hK => ?_)
      go_simp
      refine hK.out _ _ (fun _ => hS6) ?_
      clear hK K'
      try simp only [Act.put, List.setIfInBounds_toArray, List.set_cons_zero, List.set_cons_succ]
      refine anyT_one (i := 8) (by kernel_rfl) rfl (fun K' hK => ?_)
      go_simp
      refine hK.out _ _ (fun h => absurd rfl h) ?_
      clear hK K'
      try simp only [Act.put, List.setIfInBounds_toArray, List.set_cons_zero, List.set_cons_succ]
      refine anyT_done (by kernel_rfl) ?_ _
      go_wp2
      go_roundw
      case rel => exact ⟨k + 1, by omega, by go_num, by rw [← Hrs.out]; exact hR6.set _ _, hU6.setCell (p := ⟨w.heap.size + 1 + 1, s, none⟩) (.inr rfl) _⟩
      case measure => simp [intOf]; omega
    · obtain rfl : k = m := by omega
      go_wp2
      go_ret
      exact ⟨_, rfl, by omega, by simp only [HG.out]; rw [← rowMore_full _ _ _ Hil.out.symm]; exact hR, (hU3.trans' hU (fun i hi e => by omega)).toBelow (R := fun _ => False) (fun _ e => e.elim) (Nat.le_refl _)⟩
end Go.Proofs.Ytcadmjpkgnbodaa

/- Numberings: the program's counts, number by number. -/
namespace Go.Proofs.Ytcadmjpkgnbodaa
open Go.RowKit Go.Shelf

def cntL (ms : Int → Bool) (zs : List Int) (k : Nat) : List Int := (List.range (2 ^ zs.length)).map fun s => if s ∈ idl zs then (pN ms zs k s : Int) else 0
theorem cntL_len (ms : Int → Bool) (zs : List Int) (k : Nat) : (cntL ms zs k).length = 2 ^ zs.length := by simp [cntL]
theorem cntL_at (ms : Int → Bool) (zs : List Int) (k : Nat) {s : Nat} (h : s ∈ idl zs) : (cntL ms zs k)[s]?.getD 0 = (pN ms zs k s : Int) := by
  have hs := (mem_idl.1 h).1
  simp [cntL, List.getElem?_map, List.getElem?_range hs, h]
theorem nsum_le {α : Type} (f : α → Nat) (B : Nat) (hf : ∀ x, f x ≤ B) : ∀ l : List α, (l.map f).sum ≤ l.length * B
  | [] => by simp
  | x :: l => by
    have h1 := nsum_le f B hf l
    have h2 := hf x
    simp only [List.map_cons, List.sum_cons, List.length_cons, Nat.add_mul, Nat.one_mul]
    omega
theorem idl_len_le {zs : List Int} (hn6 : zs.length ≤ 6) : (idl zs).length ≤ 64 := by
  have h3 : (idl zs).length ≤ 2 ^ zs.length := by
    unfold idl
    have := List.length_filter_le (fun j : Nat => idB zs (j : Int)) (List.range (2 ^ zs.length))
    simpa using this
  have h4 : 2 ^ zs.length ≤ 2 ^ 6 := Nat.pow_le_pow_right (by decide) hn6
  omega
theorem pN_le {ms : Int → Bool} {zs : List Int} (hn6 : zs.length ≤ 6) : ∀ k s : Nat, pN ms zs k s ≤ 64 ^ k
  | 0, s => by rw [pN]; split <;> simp
  | k + 1, s => by
    rw [pN]
    have h1 := nsum_le (fun t => if inB' ms s t then pN ms zs k t else 0) (64 ^ k) (fun t => by
      have := pN_le (ms := ms) hn6 k t
      show (if inB' ms s t then pN ms zs k t else 0) ≤ 64 ^ k
      split <;> omega) (idl zs)
    have h2 := Nat.mul_le_mul_right (64 ^ k) (idl_len_le hn6)
    rw [Nat.pow_succ]
    omega
theorem pN_small {ms : Int → Bool} {zs : List Int} (hn6 : zs.length ≤ 6) {k : Nat} (hk : k ≤ 4) (s : Nat) : pN ms zs k s ≤ 1000000000 :=
  Nat.le_trans (pN_le hn6 k s) (Nat.le_trans (Nat.pow_le_pow_right (by decide) hk) (by decide))
theorem cntL_bd {ms : Int → Bool} {zs : List Int} (hn6 : zs.length ≤ 6) {k : Nat} (hk : k ≤ 4) (t : Nat) : 0 ≤ (cntL ms zs k)[t]?.getD 0 ∧ (cntL ms zs k)[t]?.getD 0 ≤ 1000000000 := by
  rcases Nat.lt_or_ge t (2 ^ zs.length) with h | h
  · have hp := pN_small (ms := ms) hn6 hk t
    have e : (cntL ms zs k)[t]?.getD 0 = if t ∈ idl zs then (pN ms zs k t : Int) else 0 := by simp [cntL, List.getElem?_map, List.getElem?_range h]
    rw [e]
    split <;> omega
  · rw [List.getElem?_eq_none (by rw [cntL_len]; exact h)]
    decide
theorem lsum_cast (f : Nat → Nat) (g : Nat → Int) : ∀ l : List Nat, (∀ x ∈ l, g x = (f x : Int)) → lsum g l = ((l.map f).sum : Nat)
  | [], _ => rfl
  | x :: l, h => by
    rw [lsum_cons, lsum_cast f g l (fun y hy => h y (List.mem_cons_of_mem _ hy)), h x List.mem_cons_self, List.map_cons, List.sum_cons]
    omega
/-- One number more. -/
theorem cntL_more (ms : Int → Bool) (zs : List Int) (k : Nat) : ((List.range (2 ^ zs.length)).map fun s => if s ∈ idl zs then lsum (fun t => if inB' ms s t then (cntL ms zs k)[t]?.getD 0 else 0) (idl zs) else 0) = cntL ms zs (k + 1) := by
  unfold cntL
  refine List.map_congr_left fun s _ => ?_
  split
  · rw [pN]
    refine lsum_cast _ _ _ fun t ht => ?_
    have := cntL_at ms zs k ht
    unfold cntL at this
    rw [this]
    split <;> rfl
  · rfl
theorem cntL_zero {ms : Int → Bool} {zs : List Int} (h0 : 0 ∈ idl zs) : cntL ms zs 0 = (List.replicate (2 ^ zs.length) 0).set 0 1 := by
  apply List.ext_getElem
  · simp [cntL]
  · intro i h1 h2
    rw [List.getElem_set]
    simp only [cntL, List.getElem_map, List.getElem_range, List.getElem_replicate, pN]
    by_cases hi : 0 = i
    · subst hi; simp [h0]
    · have hi' : ¬ i = 0 := fun e => hi e.symm
      simp [hi, hi']
end Go.Proofs.Ytcadmjpkgnbodaa

/- Numberings: countNumberings. -/
namespace Go.Proofs.Ytcadmjpkgnbodaa
open Go.RowKit Go.Shelf
attribute [local go_sem] Oper.semAt_some
attribute [local go_sem, local simp] wide_fn




theorem store_fun (P : Program) (w : World) (a : Addr) (f : Fn) (bs cs : Array Value) (m : Mode) : (store a (.func f bs cs) m).run P w = stored P w a (.func f bs cs) m := run_store P w a _ m rfl
attribute [local go_sem] store_fun

/-- In how many ways all items are numbered, for the first k numbers. -/
def totL (ms : Int → Bool) (zs : List Int) (k : Nat) : List Int := (List.range k).map fun j => (pN ms zs j (2 ^ zs.length - 1) : Int)
theorem totL_succ (ms : Int → Bool) (zs : List Int) (k : Nat) : totL ms zs (k + 1) = totL ms zs k ++ [(pN ms zs k (2 ^ zs.length - 1) : Int)] := by unfold totL; rw [List.range_succ, List.map_append]; rfl
theorem totL_len (ms : Int → Bool) (zs : List Int) (k : Nat) : (totL ms zs k).length = k := by simp [totL]
theorem own_lit (w : World) (e : TypeId) (u : Value) : (w.alloc (.cells #[u] e)).ownsRow w.heap.size e 1 (.slice (some ⟨w.heap.size, 0, none⟩) 1 1) 1 [u] :=
  ⟨rfl, .inr ⟨w.heap.size, 1, #[u], rfl, Nat.le_refl _, by show (w.heap.push _)[w.heap.size]? = _; simp, Nat.le_refl _, by simp [maxLen], rfl, rfl⟩⟩
theorem all_idl {zs : List Int} (h : VoP zs) : 2 ^ zs.length - 1 ∈ idl zs := by
  have hp : 0 < (2 : Nat) ^ zs.length := Nat.pow_pos (by decide)
  have hlt : 2 ^ zs.length - 1 < 2 ^ zs.length := by omega
  refine mem_idl.2 ⟨hlt, (idN_iff h hlt).2 fun a b _ hab => ?_⟩
  rw [Nat.testBit_two_pow_sub_one]
  exact decide_eq_true (upw_lt.1 hab).1
theorem zero_idl {zs : List Int} (h : VoP zs) : 0 ∈ idl zs := by
  have hp : 0 < (2 : Nat) ^ zs.length := Nat.pow_pos (by decide)
  exact mem_idl.2 ⟨hp, (idN_iff h hp).2 fun a b hb _ => by simp at hb⟩
theorem sets_idl (zs : List Int) : setsTo (idB zs) (2 ^ zs.length) = (idl zs).map fun x : Nat => (x : Int) := by
  first | rfl | (unfold setsTo idl; rfl) | (unfold setsTo idl; simp [List.filter_map]; rfl)

set_option maxRecDepth 100000 in
set_option maxHeartbeats 8000000 in
theorem numberings_any (zs : List Int) (q n : Nat) (F : Value) (ms : Int → Bool) (hF : Shares F zs q ms) (hvo : VoP zs) (hlen0 : zs.length = n) (w : World) (hA : Arr w q 46 zs) :
    Calls Try.prog 71 #[.slice (some ⟨q, 0, none⟩) n n, F] w fun e W' => ∃ v, e = .returned v ∧ OwnS (fun k => w.heap.size ≤ k) W' w.heap.size 3 v (totL ms zs 5) ∧ Below w.heap.size w W' := by
  have hn6 : zs.length ≤ 6 := hvo.1
  obtain ⟨i0, hi0, hz0i, hz1i, hz2i⟩ := info_parts infoInt
  obtain ⟨f, bs, hFe, -, -⟩ := id hF
  subst hFe
  have Hlen := Lib.hid hlen0
  have hall := fun w => oall_any (some ⟨q, 0, none⟩) n n w (by omega)
  have hid := oideals_any (some ⟨q, 0, none⟩) n n zs hvo w (hA.ints' hA.lt hlen0)
  obtain ⟨N, hN⟩ : ∃ N : Nat, N = 2 ^ n := ⟨_, rfl⟩
  have hNp : powI n = (N : Int) := by rw [hN]; simp [powI]
  have hN64 : N ≤ 64 := by
    have : 2 ^ n ≤ 2 ^ 6 := Nat.pow_le_pow_right (by decide) (by omega)
    omega
  have hN0 : 0 < N := by rw [hN]; exact Nat.pow_pos (by decide)
  rw [hNp] at hall
  rw [← hN] at hid
  have hsi : setsTo (idB zs) N = (idl zs).map fun x : Nat => (x : Int) := by rw [hN, ← hlen0]; exact sets_idl zs
  rw [hsi] at hid
  have hNz : 2 ^ zs.length = N := by rw [hN, ← hlen0]
  have Hal := Lib.hid (all_idl hvo)
  have Hc0 := Lib.hid (cntL_zero (ms := ms) (zero_idl hvo))
  have HcN := Lib.hid (fun k => (cntL_len ms zs k).trans hNz)
  have Htop := Lib.hid (fun k => cntL_at ms zs k Hal.out)
  have Hmore := Lib.hid (fun k => cntL_more ms zs k)
  have Hts := Lib.hid (fun k => totL_succ ms zs k)
  rw [hNz] at Hal Hc0 Htop Hmore Hts
  have Hnz := Lib.hid hNz
  clear hNz hsi
  have HN := Lib.hid hN
  clear hN hNp hlen0
  have hmk := run_make_row' (P := Try.prog) 22 3 (.int .i64 0) 8 Try.underlying22 infoInt rfl .i64 .i64 N (by omega) (by omega)
  have hwr : wrap64 ((N : Int) - 1 + 1) = (N : Int) := (IntWalk.wrap64_in _ ⟨by omega, by omega⟩).trans (by omega)
  obtain ⟨y, hy⟩ : ∃ y : Int, y = ((List.replicate N (0 : Int)).set 0 1)[N - 1]?.getD 0 := ⟨_, rfl⟩
  have Hset := Lib.hid (show (madeCells #[Value.int .i64 0] N).setIfInBounds 0 (Value.int .i64 1) = (((List.replicate N (0 : Int)).set 0 1).map (Value.int .i64)).toArray by
      apply Array.ext
      · simp [madeCells]
      · intro i h1 h2
        simp only [Array.getElem_setIfInBounds, List.getElem_toArray, List.getElem_map, List.getElem_set, List.getElem_replicate]
        by_cases hi : 0 = i
        · simp [hi]
        · rw [Array.getElem_setIfInBounds_ne (by simpa [madeCells] using h1) hi]
          simp [hi, madeCells, Nat.mod_one])
  have hel : ((madeCells #[Value.int .i64 0] N).setIfInBounds 0 (Value.int .i64 1))[N - 1]? = some (.int .i64 y) := by
    rw [Hset.out, hy]
    rw [List.getElem?_toArray, List.getElem?_map, List.getElem?_eq_getElem (by simp; omega)]
    rfl
  have hel0 : (madeCells #[Value.int .i64 0] N)[0]? = some (.int .i64 0) := by
    rw [Array.getElem?_eq_getElem (by simp [madeCells]; omega)]
    simp [madeCells]
  have Hy := Lib.hid hy
  clear hy
  go_enter Try.func71, Try.ntmps71
  go_wp2_with fail
  refine hid.mono ?_
  rintro e w1 ⟨A', m, c', rfl, hI, hB1⟩
  go_wp2_with (go_at_call 85; refine (hall _).mono ?_; rintro e w' ⟨rfl, rfl⟩)
  have hm64 : m ≤ 64 := by
    have h1 := hI.len
    rw [List.length_map] at h1
    rw [← h1]; exact idl_len_le hn6
  have hm0 : 0 < m := by
    have h1 := hI.len
    rw [List.length_map] at h1
    rw [← h1]; exact List.length_pos_of_mem Hal.out
  have z1 := hB1.size
  have hbox : ((w1.alloc (.cells #[Value.slice A' m c', .func (.func f) bs #[]] 96)).alloc (.cells ((madeCells #[Value.int .i64 0] N).setIfInBounds 0 (.int .i64 1)) 3)).heap[w1.heap.size]? = some (.cells #[Value.slice A' m c', .func (.func f) bs #[]] 96 (0, 0)) :=
    (Below.heap_alloc _ _ _ (by simp)).trans (heap_alloc_new w1 _)
  have hcn := heap_alloc_new (w1.alloc (.cells #[Value.slice A' m c', .func (.func f) bs #[]] 96)) (.cells ((madeCells #[Value.int .i64 0] N).setIfInBounds 0 (.int .i64 1)) 3)
  rw [World.size_alloc] at hcn
  have hU0 : Upd (fun _ => False) w1 ((w1.alloc (.cells #[Value.slice A' m c', .func (.func f) bs #[]] 96)).alloc (.cells ((madeCells #[Value.int .i64 0] N).setIfInBounds 0 (.int .i64 1)) 3)) := ((Upd.refl _ w1).alloc _).alloc _
  have hz0 : ((w1.alloc (.cells #[Value.slice A' m c', .func (.func f) bs #[]] 96)).alloc (.cells ((madeCells #[Value.int .i64 0] N).setIfInBounds 0 (.int .i64 1)) 3)).heap.size = w1.heap.size + 2 := by simp
  have e2 : w1.heap.size + 1 + 1 = ((w1.alloc (.cells #[Value.slice A' m c', .func (.func f) bs #[]] 96)).alloc (.cells ((madeCells #[Value.int .i64 0] N).setIfInBounds 0 (.int .i64 1)) 3)).heap.size := by simp
  rw [e2]
  clear e2
  have hcnt : ((madeCells #[Value.int .i64 0] N).setIfInBounds 0 (.int .i64 1)) = ((cntL ms zs 0).map (Value.int .i64)).toArray := by rw [Hc0.out]; exact Hset.out
  obtain ⟨W0, hW0⟩ : ∃ W0, (w1.alloc (.cells #[Value.slice A' m c', .func (.func f) bs #[]] 96)).alloc (.cells ((madeCells #[Value.int .i64 0] N).setIfInBounds 0 (.int .i64 1)) 3) = W0 := ⟨_, rfl⟩
  rw [hW0] at hbox hcn hU0 hz0 ⊢
  rw [hcnt] at hcn
  have hAr0 : Arr W0 (w1.heap.size + 1) 3 (cntL ms zs 0) := hcn
  clear hW0 hcnt hcn hel hel0 hmk
  have hOl := own_lit W0 3 (.int .i64 y)
  have hy0 := Lib.hid (show y = (pN ms zs 0 (N - 1) : Int) by rw [Hy.out, ← Htop.out, Hc0.out])
  have HU0 := Lib.hid hU0
  have hU1 : Upd (fun _ => False) W0 (W0.alloc (.cells #[Value.int .i64 y] 3)) := (Upd.refl _ W0).alloc _
  have hAr1 := hAr0.alloc (.cells #[Value.int .i64 y] 3)
  have hz1 : W0.heap.size < (W0.alloc (.cells #[Value.int .i64 y] 3)).heap.size := by simp
  obtain ⟨W1, hW1⟩ : ∃ W1, W0.alloc (.cells #[Value.int .i64 y] 3) = W1 := ⟨_, rfl⟩
  rw [hW1] at hOl hU1 hAr1 hz1 ⊢
  clear hW1 hAr0 hU0
  obtain ⟨hz0a, hz0b⟩ : w1.heap.size + 2 ≤ W0.heap.size ∧ W0.heap.size ≤ w1.heap.size + 2 := by omega
  clear hz0
  go_loopw [6, 7, 24] (fun cv tv i wr => ∃ k Z : Nat, k ≤ 4 ∧ i = .int .i64 k ∧ cv = .slice (some ⟨Z, 0, none⟩) N N ∧ w1.heap.size < Z ∧ Arr wr Z 3 (cntL ms zs k) ∧ (OwnS (fun j => W0.heap.size ≤ j) wr W0.heap.size 3 tv (totL ms zs (k + 1)) ∧ ∀ j, tv.ownBlock = some j → j ≠ Z) ∧ Upd (fun _ => False) W0 wr ∧ W0.heap.size < wr.heap.size) (fun _ _ i _ => 4 - (intOf i).toNat)
  case atStart => exact ⟨0, w1.heap.size + 1, by omega, rfl, rfl, by omega, hAr1, ⟨⟨fun j hj => by simp [Value.ownBlock] at hj; omega, by rw [totL_succ, Hnz.out, ← hy0.out]; exact hOl⟩, fun j hj => by simp [Value.ownBlock] at hj; omega⟩, hU1, hz1⟩
  case round =>
    clear hU1 hAr1 hOl
    obtain ⟨k, Z, hk, rfl, rfl, hZ1, hAr, ⟨hO, hne⟩, hU, hz⟩ := hrel
    rename World => wx
    have hB0x : Below W0.heap.size W0 wx := hU.toBelow (fun _ e => e.elim) (Nat.le_refl _)
    have hB1x : Below w1.heap.size w1 wx := (HU0.out.toBelow (fun _ e => e.elim) (Nat.le_refl _)).trans (hB0x.mono (by omega))
    by_cases hlt : k < 4
    · have hboxr := (hB0x.block w1.heap.size (by omega)).trans hbox
      have hVx : Ints wx wx.heap.size A' m ((idl zs).map fun x : Nat => (x : Int)) := (hI.below hB1x).more (by omega)
      have hAq := (hA.below hB1 hA.lt).below hB1x (by have := hA.lt; omega)
      have hlt2 : decide ((k : Int) < 4) = true := decide_eq_true (by omega)
      go_wp2_with (refine wpList_load_row rfl _ _ rfl w1.heap.size rfl _ _ (0, 0) _ hboxr Try.underlying96 rfl (by kernel_rfl) ?_)
      refine (nmore_any zs q n (.func (.func f) bs #[]) ms hF hn6 Z N m c' A' (cntL ms zs k) wx hVx hAq hAr (HcN.out k) (Nat.le_of_eq Hnz.out) hN64 (cntL_bd hn6 (by omega)) hm64 hm0).mono ?_
      rintro e w2 ⟨Z', rfl, hZ', hAr2, hB2⟩
      rw [Hmore.out k] at hAr2
      have z2 := hB2.size
      have hZl := hAr2.lt
      have hcN := hAr2.cell (k := N - 1) (by rw [HcN.out]; omega)
      rw [Htop.out] at hcN
      have hbelow := own_lt' hO.2
      have hO2 : OwnS (fun j => W0.heap.size ≤ j ∧ j < wx.heap.size) w2 W0.heap.size 3 _ (totL ms zs (k + 1)) := OwnS.keep (S := fun j => W0.heap.size ≤ j ∧ j < wx.heap.size) ⟨fun j hj => ⟨hO.1 j hj, hbelow j hj⟩, hO.2⟩ (R := fun j => wx.heap.size ≤ j) (Below.toUpd hB2) (fun j hj e => by omega)
      have Htl := Lib.hid (totL_len ms zs (k + 1))
      have Htk := Lib.hid (Hts.out (k + 1))
      have hU2 : Upd (fun _ => False) W0 w2 := hU.below hB2 (fun k h1 h2 => by omega)
      generalize (pN ms zs (k + 1) (N - 1) : Int) = p at *
      clear hVx hAq hAr hboxr hO
      go_wp2_with (first
        | (go_at_call 85; with_reducible refine (hall _).mono ?_; rintro e w' ⟨rfl, rfl⟩)
        | (at_builtin; refine wpList_append1 _ rfl (.tmp 29) (.tmp 35) _ rfl W0.heap.size 3 i0 _ 8 Try.underlying22 hi0 hz0i hz1i hz2i rfl _ (totL ms zs (k + 1)).length _ rfl (hO2.2.alloc _) w2.heap.size 1 (.int .i64 p) rfl (cell_new _ _ _) rfl (by rw [Htl.out]; omega) (by rw [Htl.out]; omega) (by simp; omega) ?_; rintro v' w' hown' hg' hv'))
      have zg := hg'.size
      simp at zg
      have hArw : Arr w' Z' 3 (cntL ms zs (k + 1)) := (hg'.block Z' (by simp; omega) (fun e => by have := hO2.1 Z' e.symm; omega)).trans (hAr2.alloc _)
      go_roundw
      case rel => exact ⟨k + 1, Z', by omega, by go_num, rfl, by omega, hArw, ⟨by rw [Htk.out]; exact hO2.step hown' hv' (fun j hj => hj.1) (fun _ => by omega), fun j hj e => by
        rcases hv' with h1 | h1
        · have := hO2.1 j (h1 ▸ hj); omega
        · rw [h1] at hj; simp at hj; omega⟩, (hU2.alloc _).grown hg' (fun j hj => .inl (hO2.1 j hj).1), by omega⟩
      case measure => simp [intOf]; omega
    · obtain rfl : k = 4 := by omega
      have hlt2 : decide (((4 : Nat) : Int) < 4) = false := by decide
      go_wp2
      go_ret
      exact ⟨_, rfl, ⟨fun j hj => by have := hO.1 j hj; omega, own_sooner hO.2 (by omega)⟩, hB1.trans (hB1x.mono (by omega))⟩
end Go.Proofs.Ytcadmjpkgnbodaa

/- LineSums, FallsBelow: the program's, whole. -/
namespace Go.Proofs.Ytcadmjpkgnbodaa
open Go.RowKit Go.Shelf
attribute [local go_sem] Oper.semAt_some
attribute [local go_sem, local simp] wide_fn

/-- In how many ways all items have numbers, for 0 to 4 numbers. -/
def numR (st : Bool) (zs : List Int) : List Int := if vo zs then (List.range 5).map fun k => (nuN st zs k : Int) else []
theorem numR_le (st : Bool) (zs : List Int) : (numR st zs).length ≤ 1048576 := by
  unfold numR; split <;> simp
theorem numR_no {st : Bool} {zs : List Int} (h : vo zs = false) : numR st zs = [] := by unfold numR; rw [h]; rfl
theorem numR_tot {st : Bool} {zs : List Int} (h : VoP zs) : numR st zs = totL (msOf st zs) zs 5 := by
  unfold numR totL
  rw [vo_true h, if_pos rfl]
  exact List.map_congr_left fun k _ => by rw [show nuN st zs k = pN (msOf st zs) zs k (2 ^ zs.length - 1) from num_both h k]
theorem msOf_false (zs : List Int) : msOf false zs = fun _ => true := by funext r; rfl
theorem msOf_true (zs : List Int) : msOf true zs = apB zs := by funext r; rfl

set_option maxHeartbeats 2000000 in
theorem LineSums_any (A : Option Addr) (n c : Nat) (zs : List Int) (w : World) (h : Ints w w.heap.size A n zs) (hbig : n ≤ 1152921504606846976) :
    Calls Try.prog 40 #[.slice A n c] w (GivesRowV w (numR false zs)) := by
  have hlen := Lib.hid h.len
  go_enter Try.func40, Try.ntmps40
  go_wp2_with fail
  refine (readOrder_any _ _ _ zs _ h hbig).mono ?_
  rintro e w1 ⟨hB1, (⟨hv, b, rfl, hb, hAr⟩ | ⟨hv, rfl⟩)⟩
  · have hvo : VoP zs := by simpa [vo] using hv
    have z1 := hB1.size
    have Ht := Lib.hid (numR_tot (st := false) hvo)
    rw [msOf_false] at Ht
    have Hcall := Lib.hid (numberings_any zs b n (.func (.func 72) #[] #[]) (fun _ => true) (shares_all zs b) hvo hlen.out w1 hAr)
    clear hv
    go_wp2_with fail
    refine Hcall.out.mono ?_
    rintro e w2 ⟨v, rfl, hO, hB2⟩
    have Hl := Lib.hid (totL_len (fun _ => true) zs 5)
    obtain ⟨A2, c2, rfl, hR⟩ := rowV_of_own hO.2
    rw [Hl.out] at hR ⊢
    go_wp2_with fail
    go_ret
    exact ⟨A2, 5, c2, rfl, by rw [Ht.out]; exact hR.more z1 (Nat.le_refl _), hB1.trans (hB2.mono z1)⟩
  · have Ht := Lib.hid (numR_no (st := false) hv)
    clear hv
    go_wp2_with fail
    go_ret
    exact ⟨none, 0, 0, rfl, by rw [Ht.out]; exact RowV.nil _ _ _ _, hB1⟩

set_option maxHeartbeats 2000000 in
theorem FallsBelow_any (A : Option Addr) (n c : Nat) (zs : List Int) (w : World) (h : Ints w w.heap.size A n zs) (hbig : n ≤ 1152921504606846976) :
    Calls Try.prog 42 #[.slice A n c] w (GivesRowV w (numR true zs)) := by
  have hlen := Lib.hid h.len
  go_enter Try.func42, Try.ntmps42
  go_wp2_with fail
  refine (readOrder_any _ _ _ zs _ h hbig).mono ?_
  rintro e w1 ⟨hB1, (⟨hv, b, rfl, hb, hAr⟩ | ⟨hv, rfl⟩)⟩
  · have hvo : VoP zs := by simpa [vo] using hv
    have z1 := hB1.size
    have Ht := Lib.hid (numR_tot (st := true) hvo)
    rw [msOf_true] at Ht
    have Hcall := Lib.hid (numberings_any zs b n (.func (.func 61) #[.slice (some ⟨b, 0, none⟩) n n] #[]) (apB zs) (shares_apart zs b n n hvo.sets hlen.out) hvo hlen.out w1 hAr)
    clear hv
    go_wp2_with fail
    refine Hcall.out.mono ?_
    rintro e w2 ⟨v, rfl, hO, hB2⟩
    have Hl := Lib.hid (totL_len (apB zs) zs 5)
    obtain ⟨A2, c2, rfl, hR⟩ := rowV_of_own hO.2
    rw [Hl.out] at hR ⊢
    go_wp2_with fail
    go_ret
    exact ⟨A2, 5, c2, rfl, by rw [Ht.out]; exact hR.more z1 (Nat.le_refl _), hB1.trans (hB2.mono z1)⟩
  · have Ht := Lib.hid (numR_no (st := true) hv)
    clear hv
    go_wp2_with fail
    go_ret
    exact ⟨none, 0, 0, rfl, by rw [Ht.out]; exact RowV.nil _ _ _ _, hB1⟩
end Go.Proofs.Ytcadmjpkgnbodaa

/- Numberings: what the model's counts turn on. -/
namespace Go.Proofs.Ytcadmjpkgnbodaa
open Go.RowKit Go.Shelf
attribute [local go_sem] Oper.semAt_some
attribute [local go_sem, local simp] wide_fn

section
variable {P : Program} (w : World)
theorem wpList_appendM {ops : Array Oper} {rest : List Oper} {o : Oper} {a : Act} {Q : Exit → Act → World → Prop} (hgd : o.guard = none) (s x : Operand) (t : TypeId)
    (ho : o.op = .call { callee := .builtin .append, args := #[s, x], argTypes := #[t, t] })
    (base : Nat) (e : TypeId) (i : TypeInfo) (z : Value) (bytes : Nat) (ht : P.underlying t = some (.slice e)) (hi : P.info? e = some i) (hz : i.zero = some z)
    (hsize : i.size = 1) (hby : i.bytes = bytes) (hzs : z.cells.size = 1)
    (v : Value) (n : Nat) (xs : List Value) (hs : a.eval s = v) (hown : w.ownsRow base e 1 v n xs)
    (ad : Addr) (m c : Nat) (news : List Value) (hx : a.eval x = .slice (some ad) m c) (hl : news.length = m) (hnews : ∀ j u, news[j]? = some u → w.cell? (ad.add j) = some u) (h1 : ∀ u ∈ news, u.oneCell' = true)
    (h63 : n + m ≤ maxLen) (hbytes : (n + m) * bytes ≤ 140737488355328) (hbase : base ≤ w.heap.size)
    (h : ∀ v' w', w'.ownsRow base e 1 v' (n + m) (xs ++ news) → w.grownBy w' v.ownBlock → wpList P ops Q rest (a.put o.dst v') w') : wpList P ops Q (o :: rest) a w := by
  obtain ⟨v', w', hrun, h2, h3, _, _⟩ := run_append_own_at (P := P) w base t o.type e i z 1 bytes ht hi hz hsize hby hzs (by omega) v n xs hown ad m c news (by omega) hnews h1 h63 hbytes hbase
  refine wpList_plain hgd fun K hK => ?_
  unfold Oper.wp execOp
  simp only [ho, resolve, invoke, builtin, Sem.run_bind, Sem.run_pure, Result.andThen_ok, List.map_toArray, List.map_cons, List.map_nil, hs, hx, hrun]
  exact hK _ _ (h v' w' h2 h3)
end

theorem bitI_nil (s j : Int) : (bitI s j == 0) = !bitB s j := by unfold bitI; cases bitB s j <;> rfl
theorem list_sum_le {α : Type} (g : α → Nat) (B : Nat) : ∀ l : List α, (∀ x ∈ l, g x ≤ B) → (l.map g).sum ≤ l.length * B
  | [], _ => by simp
  | x :: l, h => by
    have h1 := h x (by simp)
    have h2 := list_sum_le g B l fun y hy => h y (by simp [hy])
    rw [List.map_cons, List.sum_cons, List.length_cons, Nat.add_mul]
    omega
theorem mN_le (st : Bool) (zs : List Int) (k : Nat) : ∀ (f : Nat) (g : List Int), mN st zs k f g ≤ k ^ f
  | 0, _ => by simp [mN]
  | f + 1, g => by
    have h := list_sum_le (fun x : Nat => if fineB st zs g ((x : Int) + 1) then mN st zs k f (g ++ [(x : Int) + 1]) else 0) (k ^ f) (List.range k) fun x _ => by
      split
      · exact mN_le st zs k f _
      · exact Nat.zero_le _
    rw [List.length_range] at h
    rw [mN, Nat.pow_succ, Nat.mul_comm]
    exact h
/-- The sum over the first j numbers. -/
def mTo (st : Bool) (zs : List Int) (k f : Nat) (g : List Int) (j : Nat) : Nat := ((List.range j).map fun x : Nat => if fineB st zs g ((x : Int) + 1) then mN st zs k f (g ++ [(x : Int) + 1]) else 0).sum
theorem mTo_succ (st : Bool) (zs : List Int) (k f : Nat) (g : List Int) (j : Nat) : mTo st zs k f g (j + 1) = mTo st zs k f g j + if fineB st zs g ((j : Int) + 1) then mN st zs k f (g ++ [(j : Int) + 1]) else 0 := by
  unfold mTo; rw [List.range_succ, List.map_append, List.sum_append]; simp
theorem mTo_le {st : Bool} {zs : List Int} {k f : Nat} {g : List Int} (hk : k ≤ 4) (hf : f ≤ 6) {j : Nat} (hj : j ≤ 4) : mTo st zs k f g j ≤ 16384 := by
  have hp : k ^ f ≤ 4 ^ 6 := Nat.le_trans (Nat.pow_le_pow_left hk f) (Nat.pow_le_pow_right (by decide) hf)
  have h := list_sum_le (fun x : Nat => if fineB st zs g ((x : Int) + 1) then mN st zs k f (g ++ [(x : Int) + 1]) else 0) (4 ^ 6) (List.range j) fun x _ => by
    split
    · exact Nat.le_trans (mN_le st zs k f _) hp
    · exact Nat.zero_le _
  rw [List.length_range] at h
  unfold mTo
  have : j * 4 ^ 6 ≤ 4 * 4 ^ 6 := Nat.mul_le_mul_right _ hj
  omega
/-- The pairs with the first i. -/
def fiTo (st : Bool) (zs g : List Int) (x : Int) (i : Nat) : Bool := (List.range i).all (twB st zs g g.length x)
theorem fiTo_succ (st : Bool) (zs g : List Int) (x : Int) (i : Nat) : fiTo st zs g x (i + 1) = (fiTo st zs g x i && twB st zs g g.length x i) := by
  unfold fiTo; rw [List.range_succ, List.all_append]; simp
end Go.Proofs.Ytcadmjpkgnbodaa

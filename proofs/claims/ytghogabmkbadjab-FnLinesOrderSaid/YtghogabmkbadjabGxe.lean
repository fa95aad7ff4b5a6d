/- Texts that several claims share, one behind the other. -/
import Derived.Test.YtghogabmkbadjabGd
import Derived.Test.YtghogabmkbadjabGa
import Derived.Test.YtghogabmkbadjabGxc
import Derived.Test.YtghogabmkbadjabGb
set_option linter.unusedVariables false
set_option linter.unusedSimpArgs false
/- slices.Clone of an order; a row under way whose cells are stored into; what a list of sets tells, of two lists. -/
namespace Go.Proofs.Ytghogabmkbadjab
open Go.RowKit Go.Shelf
attribute [local go_sem] Oper.semAt_some
attribute [local go_sem, local simp] wide_fn

section
variable {P : Program} (w : World)
theorem wpList_appendK {ops : Array Oper} {rest : List Oper} {o : Oper} {a : Act} {Q : Exit → Act → World → Prop} (hgd : o.guard = none) (s x : Operand) (t : TypeId)
    (ho : o.op = .call { callee := .builtin .append, args := #[s, x], argTypes := #[t, t] })
    (base : Nat) (e : TypeId) (i : TypeInfo) (z : Value) (bytes : Nat) (ht : P.underlying t = some (.slice e)) (hi : P.info? e = some i) (hz : i.zero = some z)
    (hsize : i.size = 1) (hby : i.bytes = bytes) (hzs : z.cells.size = 1)
    (v : Value) (n : Nat) (xs : List Value) (hs : a.eval s = v) (hown : w.ownsRow base e 1 v n xs)
    (ad : Addr) (m c : Nat) (news : List Value) (hx : a.eval x = .slice (some ad) m c) (hl : news.length = m) (hnews : ∀ j u, news[j]? = some u → w.cell? (ad.add j) = some u) (h1 : ∀ u ∈ news, u.oneCell' = true)
    (h63 : n + m ≤ maxLen) (hbytes : (n + m) * bytes ≤ 140737488355328) (hbase : base ≤ w.heap.size)
    (h : ∀ v' w', w'.ownsRow base e 1 v' (n + m) (xs ++ news) → w.grownBy w' v.ownBlock → wpList P ops Q rest (a.put o.dst v') w') : wpList P ops Q (o :: rest) a w := by
  obtain ⟨v', w', hrun, h2, h3, _, _⟩ := run_append_own_at (P := P) w base t o.type e i z 1 bytes ht hi hz hsize hby hzs (by omega) v n xs hown ad m c news (by omega) hnews h1 h63 hbytes hbase
  refine wpList_plain hgd fun K hK => ?_
  unfold Oper.wp execOp
  simp only [ho, resolve, invoke, builtin, Sem.run_bind, Sem.run_pure, Result.andThen_ok, List.map_toArray, List.map_cons, List.map_nil, hs, hx, hrun]
  exact hK _ _ (h v' w' h2 h3)
end
theorem addr_add3 (b k j : Nat) : (⟨b, k, none⟩ : Addr).add j = ⟨b, k + j, none⟩ := by unfold Addr.add; split <;> simp_all
theorem own_set {w : World} {base n g cap : Nat} {e : TypeId} {xs : List Value} (h : w.ownsRow base e 1 (.slice (some ⟨g, 0, none⟩) n cap) n xs) (k : Nat) (u : Value) :
    (w.setCell ⟨g, k, none⟩ u).ownsRow base e 1 (.slice (some ⟨g, 0, none⟩) n cap) n (xs.set k u) := by
  refine ⟨by rw [List.length_set]; exact h.1, ?_⟩
  rcases h.2 with ⟨e, _⟩ | ⟨g', cap', cur, e, hg, hc, h1, h2, h3, ht⟩
  · cases e
  · cases e
    refine .inr ⟨g, cap, cur.setIfInBounds k u, rfl, hg, by simp [World.setCell, Array.getElem?_modify, hc], h1, h2, by simpa using h3, ?_⟩
    rw [Array.toList_setIfInBounds, List.take_set, ht]
theorem own_cell {w : World} {base n g cap : Nat} {e : TypeId} {zs : List Int} (h : w.ownsRow base e 1 (.slice (some ⟨g, 0, none⟩) n cap) n (zs.map (Value.int .i64))) : (∀ j, j < n → w.cell? ⟨g, j, none⟩ = some (.int .i64 (zs[j]?.getD 0))) ∧ (∀ j, w.frozen? ⟨g, j, none⟩ = false) ∧ g < w.heap.size := by
  refine ⟨(own_cells h).2, fun j => ?_, own_lt' h g rfl⟩
  rcases h.2 with ⟨e, _⟩ | ⟨g', cap', cur, e, hg, hc, _⟩
  · cases e
  · cases e
    exact frozen_of_row _ _ j _ _ hc
theorem own_some {w : World} {base n : Nat} {e : TypeId} {v : Value} {xs : List Value} (h : w.ownsRow base e 1 v n xs) (hn : 0 < n) : ∃ g cap, v = .slice (some ⟨g, 0, none⟩) n cap := by
  rcases h.2 with ⟨_, e⟩ | ⟨g, cap, cur, e, _⟩
  · omega
  · exact ⟨g, cap, e⟩

set_option maxRecDepth 100000 in
set_option maxHeartbeats 2000000 in
theorem clone_own (b n c : Nat) (zs : List Int) (w : World) (hA : Arr w b 76 zs) (hlen : zs.length = n) (hn : n ≤ 6) :
    Calls Try.prog 129 #[.slice (some ⟨b, 0, none⟩) n c] w fun e w' => ∃ v, e = .returned v ∧ OwnS (fun k => w.heap.size ≤ k) w' w.heap.size 76 v zs ∧ Below w.heap.size w w' := by
  obtain ⟨i0, hi0, hz0, hz1, hz2⟩ := info_parts infoItems
  have hlt := hA.lt
  have hcell : ∀ j, j < n → w.cell? ⟨b, j, none⟩ = some (.int .i64 (zs[j]?.getD 0)) := fun j hj => hA.cell (by omega)
  have Hl := Lib.hid hlen
  clear hlen
  have hcmp : ∀ w : World, (binOp BinOp.eql 49 (Value.slice (some ⟨b, 0, none⟩) n c) (Value.slice none 0 0)).run Try.prog w = .ok (.bool false) w := fun w => by first | rfl | kernel_rfl | simp [binOp]
  go_enter Try.func129, Try.ntmps129
  have hown := own_new w 76
  have hU1 : Upd (fun _ => False) w (w.alloc (.cells #[] 76)) := (Upd.refl _ w).alloc _
  have hz1' : (w.alloc (.cells #[] 76)).heap.size = w.heap.size + 1 := by simp
  have hnews : ∀ j u, (zs.map (Value.int .i64))[j]? = some u → (w.alloc (.cells #[] 76)).cell? ((⟨b, 0, none⟩ : Addr).add j) = some u := news_at hcell (hU1.mono (S := fun k => w.heap.size ≤ k) (fun _ _ e => e.elim)) hlt (fun j hj => addr_add3 ..) (fun j hj => by rw [Nat.zero_add]) (by rw [Hl.out]; omega)
  go_wp2_with (at_builtin; refine wpList_appendK _ rfl (.tmp 5) (.tmp 6) _ rfl w.heap.size 76 i0 _ 8 Try.underlying49 hi0 hz0 hz1 hz2 rfl _ 0 [] rfl hown ⟨b, 0, none⟩ n c _ rfl (by rw [List.length_map]; exact Hl.out) hnews (fun u hu => by obtain ⟨z, _, rfl⟩ := List.mem_map.1 hu; rfl) (by simp [maxLen]; omega) (by omega) (by simp) ?_; intro v' w' hown' hg')
  go_ret
  rw [Nat.zero_add, List.nil_append] at hown'
  refine ⟨v', rfl, ⟨fun k hk => own_ge hown' k hk, by rw [Hl.out]; exact hown'⟩, ?_⟩
  exact ((hU1.mono (S := fun k => w.heap.size ≤ k) (fun _ _ e => e.elim)).grown hg' (fun k hk => by simp [Value.ownBlock, Act.eval] at hk; exact .inl (by omega))).toBelow (fun k e => e) (Nat.le_refl _)

/-- What reading two lists gives. -/
def Reads2 (zs ys : List Int) (n m : Nat) (w : World) (e : Ending) (w' : World) : Prop :=
  Below w.heap.size w w' ∧ ((vo zs = true ∧ vo ys = true ∧ ∃ b b', e = .returned (.tuple #[.slice (some ⟨b, 0, none⟩) n n, .slice (some ⟨b', 0, none⟩) m m, .bool true]) ∧ Arr w' b 76 zs ∧ Arr w' b' 76 ys) ∨
    ((vo zs && vo ys) = false ∧ ∃ A k A' k', e = .returned (.tuple #[.slice A k k, .slice A' k' k', .bool false])))
end Go.Proofs.Ytghogabmkbadjab

/- slices.Clone of a list of whole numbers. -/
namespace Go.Proofs.Ytghogabmkbadjab
open Go.RowKit Go.Shelf
attribute [local go_sem] Oper.semAt_some
attribute [local go_sem, local simp] wide_fn

set_option maxRecDepth 100000 in
set_option maxHeartbeats 2000000 in
theorem cloneI_own (B : Nat) (v : Value) (zs : List Int) (n : Nat) (w : World) (hO : w.ownsRow B 3 1 v n (zs.map (Value.int .i64))) (hn : n ≤ 6) :
    Calls Try.prog 176 #[v] w fun e w' => ∃ v', e = .returned v' ∧ OwnS (fun k => w.heap.size ≤ k) w' w.heap.size 3 v' zs ∧ Below w.heap.size w w' := by
  obtain ⟨i0, hi0, hz0, hz1, hz2⟩ := info_parts infoInt
  have hlt := own_lt' hO
  have hl : zs.length = n := by simpa using hO.1
  rcases hO.2 with ⟨rfl, rfl⟩ | ⟨g, cap, cur, rfl, _⟩
  · obtain rfl : zs = [] := List.eq_nil_of_length_eq_zero hl
    clear hO hlt
    have hcmp : ∀ w : World, (binOp BinOp.eql 22 (Value.slice none 0 0) (Value.slice none 0 0)).run Try.prog w = .ok (.bool true) w := fun w => by first | rfl | kernel_rfl | simp [binOp]
    go_enter Try.func176, Try.ntmps176
    go_wp2
    go_ret
    exact ⟨_, rfl, OwnS.none _ _ _ _, Below.refl _ _⟩
  · have hcell := (own_cells hO).2
    have hgl := hlt g rfl
    have Hl := Lib.hid hl
    clear hl hO
    have hcmp : ∀ w : World, (binOp BinOp.eql 22 (Value.slice (some ⟨g, 0, none⟩) n cap) (Value.slice none 0 0)).run Try.prog w = .ok (.bool false) w := fun w => by first | rfl | kernel_rfl | simp [binOp]
    go_enter Try.func176, Try.ntmps176
    have hown := own_new w 3
    have hU1 : Upd (fun _ => False) w (w.alloc (.cells #[] 3)) := (Upd.refl _ w).alloc _
    have hz1' : (w.alloc (.cells #[] 3)).heap.size = w.heap.size + 1 := by simp
    have hnews : ∀ j u, (zs.map (Value.int .i64))[j]? = some u → (w.alloc (.cells #[] 3)).cell? ((⟨g, 0, none⟩ : Addr).add j) = some u := news_at hcell (hU1.mono (S := fun k => w.heap.size ≤ k) (fun _ _ e => e.elim)) hgl (fun j hj => addr_add3 ..) (fun j hj => by rw [Nat.zero_add]) (by rw [Hl.out]; omega)
    go_wp2_with (at_builtin; refine wpList_appendK _ rfl (.tmp 5) (.tmp 6) _ rfl w.heap.size 3 i0 _ 8 Try.underlying22 hi0 hz0 hz1 hz2 rfl _ 0 [] rfl hown ⟨g, 0, none⟩ n cap _ rfl (by rw [List.length_map]; exact Hl.out) hnews (fun u hu => by obtain ⟨z, _, rfl⟩ := List.mem_map.1 hu; rfl) (by simp [maxLen]; omega) (by omega) (by simp) ?_; intro v' w' hown' hg')
    go_ret
    rw [Nat.zero_add, List.nil_append] at hown'
    refine ⟨v', rfl, ⟨fun k hk => own_ge hown' k hk, by rw [Hl.out]; exact hown'⟩, ?_⟩
    exact ((hU1.mono (S := fun k => w.heap.size ≤ k) (fun _ _ e => e.elim)).grown hg' (fun k hk => by simp [Value.ownBlock, Act.eval] at hk; exact .inl (by omega))).toBelow (fun k e => e) (Nat.le_refl _)
end Go.Proofs.Ytghogabmkbadjab

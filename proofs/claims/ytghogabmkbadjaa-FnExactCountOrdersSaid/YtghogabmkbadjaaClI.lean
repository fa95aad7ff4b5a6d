/- slices.Clone of a list of whole numbers. -/
import Derived.Test.YtghogabmkbadjaaGb
set_option linter.unusedVariables false
set_option linter.unusedSimpArgs false
namespace Go.Proofs.Ytghogabmkbadjaa
open Go.RowKit Go.Shelf
attribute [local go_sem] Oper.semAt_some
attribute [local go_sem, local simp] wide_fn

set_option maxRecDepth 100000 in
set_option maxHeartbeats 2000000 in
theorem cloneI_own (B : Nat) (v : Value) (zs : List Int) (n : Nat) (w : World) (hO : w.ownsRow B 3 1 v n (zs.map (Value.int .i64))) (hn : n ≤ 6) :
    Calls Try.prog 108 #[v] w fun e w' => ∃ v', e = .returned v' ∧ OwnS (fun k => w.heap.size ≤ k) w' w.heap.size 3 v' zs ∧ Below w.heap.size w w' := by
  obtain ⟨i0, hi0, hz0, hz1, hz2⟩ := info_parts infoInt
  have hlt := own_lt' hO
  have hl : zs.length = n := by simpa using hO.1
  rcases hO.2 with ⟨rfl, rfl⟩ | ⟨g, cap, cur, rfl, _⟩
  · obtain rfl : zs = [] := List.eq_nil_of_length_eq_zero hl
    clear hO hlt
    have hcmp : ∀ w : World, (binOp BinOp.eql 22 (Value.slice none 0 0) (Value.slice none 0 0)).run Try.prog w = .ok (.bool true) w := fun w => by first | rfl | kernel_rfl | simp [binOp]
    go_enter Try.func108, Try.ntmps108
    go_wp2
    go_ret
    exact ⟨_, rfl, OwnS.none _ _ _ _, Below.refl _ _⟩
  · have hcell := (own_cells hO).2
    have hgl := hlt g rfl
    have Hl := Lib.hid hl
    clear hl hO
    have hcmp : ∀ w : World, (binOp BinOp.eql 22 (Value.slice (some ⟨g, 0, none⟩) n cap) (Value.slice none 0 0)).run Try.prog w = .ok (.bool false) w := fun w => by first | rfl | kernel_rfl | simp [binOp]
    go_enter Try.func108, Try.ntmps108
    have hown := own_new w 3
    have hU1 : Upd (fun _ => False) w (w.alloc (.cells #[] 3)) := (Upd.refl _ w).alloc _
    have hz1' : (w.alloc (.cells #[] 3)).heap.size = w.heap.size + 1 := by simp
    have hnews : ∀ j u, (zs.map (Value.int .i64))[j]? = some u → (w.alloc (.cells #[] 3)).cell? ((⟨g, 0, none⟩ : Addr).add j) = some u := news_at hcell (hU1.mono (S := fun k => w.heap.size ≤ k) (fun _ _ e => e.elim)) hgl (fun j hj => addr_add3 ..) (fun j hj => by rw [Nat.zero_add]) (by rw [Hl.out]; omega)
    go_wp2_with (at_builtin; refine wpList_appendK _ rfl (.tmp 5) (.tmp 6) _ rfl w.heap.size 3 i0 _ 8 Try.underlying22 hi0 hz0 hz1 hz2 rfl _ 0 [] rfl hown ⟨g, 0, none⟩ n cap _ rfl (by rw [List.length_map]; exact Hl.out) hnews (fun u hu => by obtain ⟨z, _, rfl⟩ := List.mem_map.1 hu; rfl) (by simp [maxLen]; omega) (by omega) (by simp) ?_; intro v' w' hown' hg')
    go_ret
    rw [Nat.zero_add, List.nil_append] at hown'
    refine ⟨v', rfl, ⟨fun k hk => own_ge hown' k hk, by rw [Hl.out]; exact hown'⟩, ?_⟩
    exact ((hU1.mono (S := fun k => w.heap.size ≤ k) (fun _ _ e => e.elim)).grown hg' (fun k hk => by simp [Value.ownBlock, Act.eval] at hk; exact .inl (by omega))).toBelow (fun k e => e) (Nat.le_refl _)
end Go.Proofs.Ytghogabmkbadjaa

/- The program's lines: the iterator. -/
import Derived.Test.YtghogabmkbadjaaTlJ
set_option linter.unusedVariables false
set_option linter.unusedSimpArgs false
namespace Go.Proofs.Ytghogabmkbadjaa
open Go.RowKit Go.Shelf
attribute [local go_sem] Oper.semAt_some
attribute [local go_sem, local simp] wide_fn

theorem lines_any (q n c : Nat) (w : World) :
    Calls Try.prog 103 #[.slice (some ⟨q, 0, none⟩) n c] w fun e w' => e = .returned (.func (.func 106) #[] #[.pointer (some ⟨w.heap.size, 0, none⟩)]) ∧ w' = w.alloc (.cells #[.slice (some ⟨q, 0, none⟩) n c] 44) := by
  go_enter Try.func103, Try.ntmps103
  go_wp2
  go_ret
  exact ⟨rfl, rfl⟩

set_option maxRecDepth 100000 in
set_option maxHeartbeats 4000000 in
theorem lines_iter (zs : List Int) (hvo : VoP zs) (q n c : Nat) (hlen0 : zs.length = n) (o : Nat) (M : Nat → Prop) (w : World) (bO : Boxed w o 44 (.slice (some ⟨q, 0, none⟩) n c)) (hA : Arr w q 59 zs) (hMb : ∀ k, M k → k < w.heap.size) :
    IterG Try.prog 106 #[.pointer (some ⟨o, 0, none⟩)] lnEnc lnOwn lnHas (lnUp zs) (lnFull zs) M w := fun l J Jx hJ hJx hY h0 => by
  have hlen := Lib.hid hlen0
  have hn6 : n ≤ 6 := by have := hvo.1; rw [hlen0] at this; exact this
  clear hlen0
  have hol := bO.lt
  have hql := hA.lt
  have HY : LnYield l w.heap.size zs M J Jx := hY
  go_enter Try.func106, Try.ntmps106
  go_wp2
  refine region_T (S := fun w' => w'.cell? ⟨o, 0, none⟩ = some (.slice (some ⟨q, 0, none⟩) n c)) 5 (by kernel_rfl) ?_
  obtain ⟨Wd, hWd⟩ : ∃ Wd, w.drew = Wd := ⟨_, rfl⟩
  have hbd : Upd (fun _ => False) w Wd := by rw [← hWd]; exact (Upd.refl _ w).drew
  have hsd : w.heap.size ≤ Wd.heap.size := hbd.size
  rw [hWd]
  clear hWd
  have bOd := hbd.boxed bO (fun e => e)
  have hAd := hA.upd hbd (fun e => e)
  have hjd := hJ _ _ _ _ h0 (hbd.mono fun _ _ e => e.elim)
  have hSd : (fun w' : World => w'.cell? ⟨o, 0, none⟩ = some (.slice (some ⟨q, 0, none⟩) n c)) Wd := bOd.cell
  refine anyT_take (i := 0) (oi := ?oi0a) (v := .slice (some ⟨q, 0, none⟩) n c) ?hi0a (by kernel_rfl) ?hq0a ?hy0a (by assumption) ?rest0a
  case hi0a => (simp only [List.getElem?_toArray, List.getElem?_cons_zero]; first | done | rfl)
  case hq0a => first | exact fun _ _ _ h => h | exact fun _ _ _ h => (by cases h.1)
  case hy0a => (refine Or.inl ⟨by rfl, ?_⟩; intro wz hSw; go_simp; first | done | with_reducible rfl | simp | omega)
  try simp only [Act.put, List.setIfInBounds_toArray, List.set_cons_zero, List.set_cons_succ]
  refine anyT_take (i := 2) (oi := ?oi2a) (v := .slice (some ⟨q, 0, none⟩) n c) ?hi2a (by kernel_rfl) ?hq2a ?hy2a (by assumption) ?rest2a
  case hi2a => (simp only [List.getElem?_toArray, List.getElem?_cons_succ, List.getElem?_cons_zero]; first | done | rfl)
  case hq2a => first | exact fun _ _ _ h => h | exact fun _ _ _ h => (by cases h.1)
  case hy2a => (refine Or.inl ⟨by rfl, ?_⟩; intro wz hSw; go_simp; first | done | with_reducible rfl | simp | omega)
  try simp only [Act.put, List.setIfInBounds_toArray, List.set_cons_zero, List.set_cons_succ]
  refine anyT_take (i := 4) (oi := ?oi4a) (v := .func (.yield l) #[] #[]) ?hi4a (by kernel_rfl) ?hq4a ?hy4a (by assumption) ?rest4a
  case hi4a => (simp only [List.getElem?_toArray, List.getElem?_cons_succ, List.getElem?_cons_zero]; first | done | rfl)
  case hq4a => first | exact fun _ _ _ h => h | exact fun _ _ _ h => (by cases h.1)
  case hy4a => (refine Or.inl ⟨by rfl, ?_⟩; intro wz hSw; go_simp; first | done | with_reducible rfl | simp | omega)
  try simp only [Act.put, List.setIfInBounds_toArray, List.set_cons_zero, List.set_cons_succ]
  refine anyT_one (i := 1) (by kernel_rfl) rfl (fun K' hK => ?_)
  go_simp
  refine (lineup_any _ n _ zs hvo.sets _ (hAd.ints' hAd.lt hlen.out)).mono ?_
  rintro e w2 ⟨b, m, rfl, hA2, hm2, hb2, -, -, hB2⟩
  have hz2 := hB2.size
  have hu2 : Upd (fun _ => False) Wd w2 := (Upd.refl _ Wd).below hB2 (fun k h1 h2 => by omega)
  have hS2 : (fun w' : World => w'.cell? ⟨o, 0, none⟩ = some (.slice (some ⟨q, 0, none⟩) n c)) w2 := (hu2.boxed bOd (fun e => e)).cell
  refine hK.out _ _ (fun _ => hS2) ?_
  clear hK K'
  try simp only [Act.put, List.setIfInBounds_toArray, List.set_cons_zero, List.set_cons_succ]
  refine anyT_one (i := 3) (by kernel_rfl) rfl (fun K' hK => ?_)
  go_simp
  refine (oall_any _ n c w2 hn6).mono ?_
  rintro e wq ⟨rfl, rfl⟩
  refine hK.out _ _ (fun _ => hS2) ?_
  clear hK K'
  try simp only [Act.put, List.setIfInBounds_toArray, List.set_cons_zero, List.set_cons_succ]
  refine anyT_one (i := 5) (by kernel_rfl) rfl (fun K' hK => ?_)
  go_simp
  refine (tell_any zs hvo n hlen.out b m l w.heap.size M J Jx hJ hJx HY hMb (by omega) n [] 0 (powI n - 1) (.slice none 0 0) [] (fun _ => False) w2 (by simp) (lft_start hn6) (by
      show alG zs n [] 0 <+: alL zs
      unfold alL
      rw [hlen.out]
      exact List.prefix_refl _) (World.ownsRow_nil _ _ _ _) (hJ _ _ _ _ hjd (hu2.mono fun _ _ e => e.elim)) (by omega) (fun j e => e.elim) (fun j e => (by simp [Value.ownBlock] at e)) hA2 (fun e => e) (by simp [Value.ownBlock])).mono ?_
  rintro e w3 (⟨rfl, post, D', hp1, hj3, -⟩ | ⟨rfl, post, D', hp1, hj3, -⟩)
  · refine hK.out _ _ (fun h => absurd rfl h) ?_
    clear hK K'
    try simp only [Act.put, List.setIfInBounds_toArray, List.set_cons_zero, List.set_cons_succ]
    refine anyT_done (by kernel_rfl) ?_ _
    go_wp2
    go_end0
    exact ⟨⟨_, rfl⟩, .inl ⟨post, by unfold lnFull; rw [hp1]; unfold alL; rw [hlen.out], D', hj3⟩⟩
  · refine hK.out _ _ (fun h => absurd rfl h) ?_
    clear hK K'
    try simp only [Act.put, List.setIfInBounds_toArray, List.set_cons_zero, List.set_cons_succ]
    refine anyT_done (by kernel_rfl) ?_ _
    go_wp2
    go_end0
    exact ⟨⟨_, rfl⟩, .inr ⟨post, hp1, D', hj3⟩⟩
end Go.Proofs.Ytghogabmkbadjaa

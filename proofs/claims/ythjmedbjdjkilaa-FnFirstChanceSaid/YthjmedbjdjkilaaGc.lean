/- Texts that several claims share, one behind the other. -/
import Derived.Test.YthjmedbjdjkilaaGb
import Derived.Test.YthjmedbjdjkilaaGa
import Derived.Deep.RegionLaw
import Derived.Deep.AppendLies
import Derived.Maps.AppendAt
import Derived.StillTailTactics
/- A list of pairs that is drawn is short. -/
namespace Go.Proofs.Ythjmedbjdjkilaa
open Go.RowKit Go.Shelf

theorem Rowed.step1 {w w' : World} {B n : Nat} {v v' : Value} {rs : List (List Int)} {vs : List Value} {a : Int} (h1 : w.ownsRow B 23 1 v n vs) (hn : n = rs.length) (h2 : RowsC w B w.heap.size vs rs) (hB : B ≤ w.heap.size)
    (hown : w'.ownsRow B 23 1 v' (n + 1) (vs ++ [.slice (some ⟨w.heap.size, 0, none⟩) 1 1]))
    (hg : ((w.alloc (.cells #[.int .i64 a] 3)).alloc (.cells #[.slice (some ⟨w.heap.size, 0, none⟩) 1 1] 23)).grownBy w' v.ownBlock) : Rowed w' B v' (rs ++ [[a]]) := by
  have hu : Upd (fun _ => False) w ((w.alloc (.cells #[.int .i64 a] 3)).alloc (.cells #[.slice (some ⟨w.heap.size, 0, none⟩) 1 1] 23)) := ((Upd.refl _ w).alloc _).alloc _
  have h3 := h2.upd hu (fun j e => e.elim)
  have hA : Arr (w.alloc (.cells #[.int .i64 a] 3)) w.heap.size 3 [a] := heap_alloc_new w _
  have h4 := h3.snoc (hi' := w.heap.size + 1 + 1) (r := [a]) (c := 1) (Row.of (hA.alloc _) rfl (Nat.le_refl _) (by omega)) (by omega)
  have h5 := h4.grown (by simp) hg (own_block (h1.alloc _ |>.alloc _))
  refine ⟨_, by rw [List.length_append, ← hn]; exact hown, h5.more (by have := hg.size; simpa using this), by have := hg.size; simp at this; omega⟩

/-- Rows that read: few, and short. -/
def Few (w : World) (v : Value) (rs : List (List Int)) : Prop := ∃ A c, v = .slice A rs.length c ∧ IntsS w w.heap.size A rs.length rs ∧ rs.length ≤ 1048576 ∧ ∀ r ∈ rs, r.length ≤ 1048576
theorem Rowed.few {w : World} {B : Nat} {v : Value} {rs : List (List Int)} (h : Rowed w B v rs) (hl : rs.length ≤ 1048576) (hr : ∀ r ∈ rs, r.length ≤ 2) : Few w v rs := by
  obtain ⟨A, c, rfl, hR⟩ := h.rows
  exact ⟨A, c, rfl, hR.ints (Nat.le_refl _), hl, fun r h => by have := hr r h; omega⟩
end Go.Proofs.Ythjmedbjdjkilaa

/- One element put at its place: an append of any number of elements, as a step of a region that draws its order. -/
namespace Go.Proofs.Ythjmedbjdjkilaa
open Go.RowKit

section
variable {P : Program} (w : World)
theorem own_form {w : World} {base n : Nat} {e : TypeId} {v : Value} {xs : List Value} (h : w.ownsRow base e 1 v n xs) (hv : v ≠ .slice none 0 0) : ∃ g cap, v = .slice (some ⟨g, 0, none⟩) n cap ∧ base ≤ g ∧ g < w.heap.size ∧ n ≤ cap ∧ cap ≤ maxLen := by
  rcases h.2 with ⟨e, _⟩ | ⟨g, cap, cur, rfl, hg, hc, h1, h2, _⟩
  · exact absurd e hv
  · exact ⟨g, cap, rfl, hg, (Array.getElem?_eq_some_iff.1 hc).1, h1, h2⟩
theorem step_append_any {ops : Array Oper} {o : Oper} {a : Act} {K : Act → World → Prop} {Q : Exit → Act → World → Prop} {E : Prop} (hgd : o.guard = none) (s x : Operand) (t : TypeId)
    (ho : o.op = .call { callee := .builtin .append, args := #[s, x], argTypes := #[t, t] })
    (base : Nat) (e : TypeId) (i : TypeInfo) (z : Value) (bytes : Nat) (ht : P.underlying t = some (.slice e)) (hi : P.info? e = some i) (hz : i.zero = some z)
    (hsize : i.size = 1) (hby : i.bytes = bytes) (hzs : z.cells.size = 1)
    (v : Value) (n : Nat) (xs : List Value) (hs : a.eval s = v) (hv : v ≠ .slice none 0 0) (hown : w.ownsRow base e 1 v n xs)
    (ad : Addr) (m c : Nat) (news : List Value) (hx : a.eval x = .slice (some ad) m c) (hl : news.length = m) (hnews : ∀ j u, news[j]? = some u → w.cell? (ad.add j) = some u) (h1 : ∀ u ∈ news, u.oneCell' = true)
    (h63 : n + m ≤ maxLen) (hbytes : (n + m) * bytes ≤ 140737488355328) (hbase : base ≤ w.heap.size)
    (h : ∀ g cap w', w'.ownsRow base e 1 (.slice (some ⟨g, 0, none⟩) (n + m) cap) (n + m) (xs ++ news) → w.grownBy w' v.ownBlock → base ≤ g → g < w'.heap.size → n + m ≤ cap → cap ≤ maxLen → K (a.put o.dst (.slice (some ⟨g, 0, none⟩) (n + m) cap)) w') :
    if Region.wanted o (yielded ops a.tmps) = true then Oper.wp P o a w K Q else E := by
  have hw : Region.wanted o (yielded ops a.tmps) = true := by simp [Region.wanted, hgd]
  rw [if_pos hw]
  obtain ⟨v', w', hr, h2, h3, h4, _⟩ := run_append_own_at (P := P) w base t o.type e i z 1 bytes ht hi hz hsize hby hzs (by omega) v n xs hown ad m c news (by omega) hnews h1 h63 hbytes hbase
  obtain ⟨g, cap, rfl, hg, hlt, hnc, hcm⟩ := own_form h2 (fun e => hv (h4.1 e).1)
  unfold Oper.wp execOp
  simp only [ho, resolve, invoke, builtin, Sem.run_bind, Sem.run_pure, Result.andThen_ok, List.map_toArray, List.map_cons, List.map_nil, hs, hx, hr]
  exact h g cap w' h2 h3 hg hlt hnc hcm
theorem own_sooner {w : World} {b b' n : Nat} {e : TypeId} {v : Value} {xs : List Value} (h : w.ownsRow b e 1 v n xs) (hb : b' ≤ b) : w.ownsRow b' e 1 v n xs := by
  refine ⟨h.1, ?_⟩
  rcases h.2 with h1 | ⟨g, cap, cur, rfl, hg, hrest⟩
  · exact .inl h1
  · exact .inr ⟨g, cap, cur, rfl, by omega, hrest⟩
end
/-- The row's numbers from one place on, or up to one: as what is appended. -/
theorem news_at {w w' : World} {B b k n : Nat} {ts zs : List Int} (hc : ∀ j, j < n → w.cell? ⟨b, j, none⟩ = some (.int .i64 (ts[j]?.getD 0))) (hu : Upd (fun k => B ≤ k) w w') (hb : b < B) {ad : Addr}
    (had : ∀ j, j < zs.length → ad.add j = ⟨b, k + j, none⟩) (hz : ∀ j, j < zs.length → zs[j]?.getD 0 = ts[k + j]?.getD 0) (hl : k + zs.length ≤ n) :
    ∀ j u, (zs.map (Value.int .i64))[j]? = some u → w'.cell? (ad.add j) = some u := fun j u hu' => by
  rw [List.getElem?_map] at hu'
  cases hg : zs[j]? with
  | none => rw [hg] at hu'; cases hu'
  | some z =>
    have hj : j < zs.length := (List.getElem?_eq_some_iff.1 hg).1
    rw [hg] at hu'
    simp only [Option.map_some, Option.some.injEq] at hu'
    rw [had j hj, hu.cell (hc (k + j) (by omega)) (by simp; omega), ← hz j hj, hg, ← hu']
    rfl
theorem news_one {w : World} {ad : Addr} {u : Value} (h : w.cell? ad = some u) : ∀ j u', [u][j]? = some u' → w.cell? (ad.add j) = some u' := fun j u' hu => by
  cases j with
  | zero => simp at hu; subst hu; simpa [Addr.add] using h
  | succ j => simp at hu
theorem cell_new_alloc (w : World) (e : TypeId) (u : Value) (o : Obj) : ((w.alloc (.cells #[u] e)).alloc o).cell? ⟨w.heap.size, 0, none⟩ = some u :=
  (World.cell?_of_block (Below.heap_alloc _ _ _ (by simp))).trans (cell_new w e u)
theorem own_new2 (w : World) (o : Obj) (e : TypeId) : ((w.alloc o).alloc (.cells #[] e)).ownsRow w.heap.size e 1 (.slice (some ⟨w.heap.size + 1, 0, none⟩) 0 0) 0 [] := by
  have h := own_new (w.alloc o) e
  rw [World.size_alloc] at h
  exact own_sooner h (by omega)
theorem own_cells {w : World} {base n g cap : Nat} {e : TypeId} {zs : List Int} (h : w.ownsRow base e 1 (.slice (some ⟨g, 0, none⟩) n cap) n (zs.map (Value.int .i64))) :
    zs.length = n ∧ ∀ j, j < n → w.cell? ⟨g, j, none⟩ = some (.int .i64 (zs[j]?.getD 0)) := by
  obtain ⟨A, c, e, hI⟩ := ints_of_own h
  cases e
  refine ⟨hI.len, fun j hj => ?_⟩
  obtain ⟨b, off, e, _, hc⟩ := hI.at_ hj
  cases e
  simpa using hc j hj
theorem own_ge {w : World} {B n : Nat} {e : TypeId} {v : Value} {xs : List Value} (h : w.ownsRow B e 1 v n xs) : ∀ k, v.ownBlock = some k → B ≤ k := own_base h
end Go.Proofs.Ythjmedbjdjkilaa

/- OrderOf: the model's. -/
namespace Go.Proofs.Ythjmedbjdjkilaa
open Go.RowKit Go.Shelf

set_option maxRecDepth 100000 in
set_option maxHeartbeats 4000000 in
theorem specOrderOf_any (n : Int) (A : Option Addr) (m c : Nat) (rs : List (List Int)) (w : World) (h : IntsS w w.heap.size A m rs) (hm : m ≤ 1048576) (hr : ∀ r ∈ rs, r.length ≤ 1048576) :
    Calls Try.prog 128 #[.int .i64 n, .slice A m c] w (GivesOrder w n rs) := by
  have hlen := Lib.hid h.len
  cases hin : inB n 0 6
  · have Ho := Lib.hid (show ordOk n rs = false by simp [ordOk, hin])
    have Hin := Lib.hid hin
    clear hin
    go_enter Try.func128, Try.ntmps128
    go_wp2_with (go_at_call 80; refine (inRange_any _ _ _ _).mono ?_; rw [Hin.out]; rintro e w' ⟨rfl, rfl⟩)
    go_ret2
    exact none_order Ho.out (Below.refl _ _)
  have Hin := Lib.hid hin
  have hnn := inB_iff.1 hin
  clear hin
  obtain ⟨N, rfl⟩ := Int.eq_ofNat_of_zero_le hnn.1
  have hN : N ≤ 6 := by omega
  clear hnn
  have hmk := run_make_row' (P := Try.prog) 23 3 (.int .i64 0) 8 Try.underlying23 infoInt rfl .i64 .i64 N (by omega) (by omega)
  go_enter Try.func128, Try.ntmps128
  go_wp2_with (go_at_call 80; refine (inRange_any _ _ _ _).mono ?_; rw [Hin.out]; rintro e w' ⟨rfl, rfl⟩)
  have hA1 := Arr.new w 3 N
  have hB1 : Below w.heap.size w (w.alloc (.cells (madeCells #[.int .i64 0] N) 3)) := (Below.refl _ _).alloc (Nat.le_refl _) _
  obtain ⟨W1, hW1⟩ : ∃ W1, w.alloc (.cells (madeCells #[.int .i64 0] N) 3) = W1 := ⟨_, rfl⟩
  rw [hW1] at hA1 hB1 ⊢
  clear hW1 hmk
  go_loopw [7] (fun i wr => ∃ k : Nat, k ≤ m ∧ i = .int .i64 k ∧ (∀ r ∈ rs.take k, pairOk N r = true) ∧ Arr wr w.heap.size 3 (baseR N (rs.take k)) ∧ Below w.heap.size w wr) (fun i _ => m - (intOf i).toNat)
  case atStart => exact ⟨0, by omega, rfl, (fun r hr => by simp at hr), hA1, hB1⟩
  case round =>
    obtain ⟨k, hk, rfl, hall, hAr, hB⟩ := hrel
    by_cases hlt : k < m
    · have hkl := Lib.hid (show k < rs.length by rw [hlen.out]; exact hlt)
      obtain ⟨b, off, rfl, hb, hc⟩ := (h.below hB).at_ hlt
      obtain ⟨A', c', hcell, hI⟩ := hc k hlt
      have Hc := Lib.hid hc
      clear hc
      have Hts := Lib.hid (take_snoc hkl.out)
      have hml : (rs[k]?.getD []).length ≤ 1048576 := by
        rw [List.getElem?_eq_getElem hkl.out]
        exact hr _ (List.getElem_mem _)
      have hno := fun hp => ord_no (n := N) (rs := rs) hkl.out hp
      generalize rs[k]?.getD [] = r at *
      by_cases h2 : r.length = 2
      · have hI2 : Ints wr w.heap.size A' 2 r := by rw [h2] at hI; exact hI
        rw [h2] at hcell
        obtain ⟨b', off', rfl, hb', hc'⟩ := hI2.at_ (k := 0) (by omega)
        have hc0 := hc' 0 (by omega)
        have hc1 := hc' 1 (by omega)
        rw [Nat.add_zero] at hc0
        clear hc'
        have Hpo := Lib.hid (show pairOk N r = (inB (r[0]?.getD 0) 0 (N - 1) && inB (r[1]?.getD 0) 0 (N - 1)) by simp [pairOk, h2])
        have Hs := Lib.hid (baseR_snoc N (rs.take k) r)
        obtain ⟨hfit, -⟩ : Fit N (baseR N (rs.take k)) ∧ Sets (baseR N (rs.take k)) := (baseR_fit hall).resolve_right (by omega)
        generalize r[0]?.getD 0 = x0 at *
        generalize r[1]?.getD 0 = y0 at *
        clear h2 hml hI
        cases hx : inB x0 0 (N - 1)
        · have Hx := Lib.hid hx
          have Ho := Lib.hid (hno (by rw [Hpo.out, hx]; rfl))
          clear hx hno
          go_wp2_with (go_at_call 80; refine (inRange_any _ _ _ _).mono ?_; rw [Hx.out]; rintro e w' ⟨rfl, rfl⟩)
          go_ret2
          exact none_order Ho.out hB
        cases hy : inB y0 0 (N - 1)
        · have Hx := Lib.hid hx
          have Hy := Lib.hid hy
          have Ho := Lib.hid (hno (by rw [Hpo.out, hx, hy]; rfl))
          clear hx hy hno
          go_wp2_with (go_at_call 80; refine (inRange_any _ _ _ _).mono ?_; (first | rw [Hx.out] | rw [Hy.out]); rintro e w' ⟨rfl, rfl⟩)
          go_ret2
          exact none_order Ho.out hB
        have Hx := Lib.hid hx
        have Hy := Lib.hid hy
        have Hp := Lib.hid (show pairOk N r = true by rw [Hpo.out, hx, hy]; rfl)
        have h0 := inB_iff.1 hx
        have h1 := inB_iff.1 hy
        clear hx hy hno
        have Hall := Lib.hid (show ∀ r' ∈ rs.take k ++ [r], pairOk N r' = true from fun r' hr' => by
          rcases List.mem_append.1 hr' with h9 | h9
          · exact hall r' h9
          · rw [List.mem_singleton.1 h9]; exact Hp.out)
        obtain ⟨x, rfl⟩ := Int.eq_ofNat_of_zero_le h0.1
        obtain ⟨y, rfl⟩ := Int.eq_ofNat_of_zero_le h1.1
        have hxN : x < N := by omega
        have hyN : y < N := by omega
        clear h0 h1
        simp only [Int.toNat_natCast] at Hs
        have hcs := hAr.cell (k := x) (by rw [hfit.1]; exact hxN)
        have hfs := hAr.frozen x
        have hbd := hfit.2 x
        have hpn := powI_le6 (n := (N : Int)) (by omega)
        have hpy := powI_le6 (n := (y : Int)) (by omega)
        have hpp := powI_pos (y : Int)
        clear hfit
        generalize hD : baseR N (rs.take k) = D at *
        have HD := Lib.hid hD
        clear hD
        have hor : bits .or .i64 (D[x]?.getD 0) (powI y) = orI (D[x]?.getD 0) (powI y) := bits_or (by omega) (by omega) (by omega) (by omega)
        go_wp2_with (go_at_call 80; refine (inRange_any _ _ _ _).mono ?_; (first | rw [Hx.out] | rw [Hy.out]); rintro e w' ⟨rfl, rfl⟩)
        have hpw : ∀ W, Calls Try.prog 77 #[.int .i64 (y : Int)] W fun e w'' => e = .returned (.int .i64 (powI y)) ∧ w'' = W := fun W =>
          (power_any _ _ (by omega) (by omega)).mono (by rintro e w' ⟨rfl, rfl⟩; exact ⟨rfl, rfl⟩)
        obtain ⟨W2, hW2⟩ : ∃ W2, wr.drew = W2 := ⟨_, rfl⟩
        have kcell : W2.cell? ⟨b, off + k, none⟩ = some (.slice (some ⟨b', off', none⟩) 2 c') := by rw [← hW2]; exact hcell
        have kc0 : W2.cell? ⟨b', off', none⟩ = some (.int .i64 (x : Int)) := by rw [← hW2]; exact hc0
        have kc1 : W2.cell? ⟨b', off' + 1, none⟩ = some (.int .i64 (y : Int)) := by rw [← hW2]; exact hc1
        have kcs : W2.cell? ⟨w.heap.size, x, none⟩ = some (.int .i64 (D[x]?.getD 0)) := by rw [← hW2]; exact hcs
        have kfs : W2.frozen? ⟨w.heap.size, x, none⟩ = false := by rw [← hW2]; exact hfs
        have kAr : Arr W2 w.heap.size 3 D := by rw [← hW2]; exact hAr
        have kB : Below w.heap.size w W2 := by rw [← hW2]; exact hB.drew
        refine wp_region_still_tail 25 (by kernel_rfl) (by kernel_rfl) ?_
        simp only [List.take_succ_cons, List.take_zero, List.drop_succ_cons, List.drop_zero]
        change wpStill _ _ wr.drew (fun a' => wpList _ _ _ _ a' wr.drew) _ _
        rw [hW2]
        clear hW2 hcell hc0 hc1 hcs hfs hAr hB
        repeat (first | still_step | still_call (hpw _))
        refine wpStill_nil ?_
        go_wp2
        go_roundw
        case rel => exact ⟨k + 1, by omega, by go_num, by rw [← Hts.out]; exact Hall.out, by rw [← Hts.out, Hs.out]; exact kAr.set _ _, kB.setCell (p := ⟨w.heap.size, x, none⟩) (Nat.le_refl _) _⟩
        case measure => simp [intOf]; omega
      · have Ho := Lib.hid (hno (by simp [pairOk, h2]))
        have hmi : ((r.length : Int) != 2) = true := by simp; omega
        clear hno
        generalize r.length = q at *
        go_wp2
        go_ret2
        exact none_order Ho.out hB
    · obtain rfl : k = m := by omega
      have htk : rs.take k = rs := List.take_of_length_le (by rw [hlen.out]; exact Nat.le_refl _)
      rw [htk] at hall hAr
      obtain ⟨hfit, -⟩ : Fit N (baseR N rs) ∧ Sets (baseR N rs) := (baseR_fit hall).resolve_right (by omega)
      have Hok := Lib.hid (show ordOk N rs = vo (closR N rs) by
        rw [ordOk, show rs.all (pairOk N) = true from List.all_eq_true.2 hall, Hin.out]; simp)
      have zB := hB.size
      clear hlen h hm
      go_wp2
      go_loopw [8] (fun i wr => ∃ a : Nat, a ≤ N ∧ i = .int .i64 a ∧ Arr wr w.heap.size 3 (folTo N (baseR N rs) a) ∧ Below w.heap.size w wr) (fun i _ => N - (intOf i).toNat)
      case atStart => exact ⟨0, by omega, rfl, hAr, hB⟩
      case round =>
        clear hAr hB zB
        obtain ⟨a, ha, rfl, hAr, hB⟩ := hrel
        by_cases hak : a < N
        · have hF := folTo_fit hfit a
          generalize hD0 : folTo N (baseR N rs) a = d0 at *
          have HD0 := Lib.hid hD0
          clear hD0
          go_wp2
          go_loopw [9] (fun i wr => ∃ l : Nat, l ≤ N ∧ i = .int .i64 l ∧ Arr wr w.heap.size 3 (folIn a d0 l) ∧ Below w.heap.size w wr) (fun i _ => N - (intOf i).toNat)
          case atStart => exact ⟨0, by omega, rfl, hAr, hB⟩
          case round =>
            clear hAr hB
            obtain ⟨l, hl, rfl, hAr, hB⟩ := hrel
            by_cases hlk : l < N
            · have hFi := folIn_fit (m := a) hF l
              have Hs := Lib.hid (folIn_succ a d0 l)
              generalize hD : folIn a d0 l = D at *
              have HD := Lib.hid hD
              clear hD
              have hpn := powI_le6 (n := (N : Int)) (by omega)
              have hl1 := hFi.2 l
              have ha1 := hFi.2 a
              have hcl := hAr.cell (k := l) (by rw [hFi.1]; exact hlk)
              have hca := hAr.cell (k := a) (by rw [hFi.1]; exact hak)
              have hfl := hAr.frozen l
              clear hFi
              cases hbit : bitB (D[l]?.getD 0) a
              · have Hb := Lib.hid hbit
                have hbi : (bitI (D[l]?.getD 0) a == 1) = false := by rw [bitI_one, hbit]
                clear hbit
                go_wp2_with (go_at_call 75; refine (bit_any _ _ _ (by omega) (by omega) (by omega) (by omega)).mono ?_; rintro e w' ⟨rfl, rfl⟩)
                go_roundw
                case rel => exact ⟨l + 1, by omega, by go_num, by rw [Hs.out, fol1, Hb.out]; exact hAr, hB⟩
                case measure => simp [intOf]; omega
              · have Hb := Lib.hid hbit
                have hbi : (bitI (D[l]?.getD 0) a == 1) = true := by rw [bitI_one, hbit]
                clear hbit
                have hor : bits .or .i64 (D[l]?.getD 0) (D[a]?.getD 0) = orI (D[l]?.getD 0) (D[a]?.getD 0) := bits_or (by omega) (by omega) (by omega) (by omega)
                go_wp2_with (go_at_call 75; refine (bit_any _ _ _ (by omega) (by omega) (by omega) (by omega)).mono ?_; rintro e w' ⟨rfl, rfl⟩)
                go_region
                all_goals
                  go_wp2
                  go_roundw
                  case rel => exact ⟨l + 1, by omega, by go_num, by rw [Hs.out, fol1, Hb.out]; exact hAr.set _ _, (hB.setCell (p := ⟨w.heap.size, l, none⟩) (Nat.le_refl _) _).drew⟩
                  case measure => simp [intOf]; omega
            · obtain rfl : l = N := by omega
              have Hs := Lib.hid (folTo_succ l (baseR l rs) a)
              go_wp2
              go_roundw
              case rel => exact ⟨a + 1, by omega, by go_num, by rw [Hs.out, HD0.out]; exact hAr, hB⟩
              case measure => simp [intOf]; omega
        · obtain rfl : a = N := by omega
          have Hf := Lib.hid (folTo_fit hfit a)
          have hl2 := hAr.lt
          go_wp2_with fail
          refine (validOrder_any _ _ _ _ _ _ (hAr.ints' hAr.lt Hf.out.1) (by omega)).mono ?_
          rintro e w3 ⟨rfl, mm, hmm⟩
          have hA3 : Arr w3 w.heap.size 3 (folTo a (baseR a rs) a) := by rw [hmm]; exact hAr
          have hB3 : Below w.heap.size w w3 := by rw [hmm]; exact below_drewN hB _
          clear hmm hAr hB
          cases hvo : vo (closR a rs)
          · have Ho := Lib.hid (show ordOk a rs = false by rw [Hok.out]; exact hvo)
            have Hv := Lib.hid (show vo (folTo a (baseR a rs) a) = false from hvo)
            clear hvo
            rw [Hv.out]
            go_wp2
            go_ret2
            exact none_order Ho.out hB3
          · have Ho := Lib.hid (show ordOk a rs = true by rw [Hok.out]; exact hvo)
            have Hv := Lib.hid (show vo (folTo a (baseR a rs) a) = true from hvo)
            clear hvo
            rw [Hv.out]
            go_wp2
            go_ret2
            exact ⟨_, a, a, by rw [Ho.out]; rfl, by rw [ordL, Ho.out]; exact Row.of hA3 Hf.out.1 (Nat.le_refl _) hA3.lt, hB3⟩
end Go.Proofs.Ythjmedbjdjkilaa

/- An order under new numbers: what the drawing needs of it. -/
namespace Go.Proofs.Ythjmedbjdjkilaa
open Go.RowKit Go.Shelf

/-- Small numbers: each is a set of at most six. -/
def Small (os : List Int) : Prop := ∀ j : Nat, 0 ≤ os[j]?.getD 0 ∧ os[j]?.getD 0 < 64
theorem Small.zero (n : Nat) : Small (List.replicate n 0) := fun j => by
  have : (List.replicate n (0 : Int))[j]?.getD 0 = 0 := by by_cases h : j < n <;> simp [h]
  omega
theorem Small.set {os : List Int} (h : Small os) {k : Nat} {v : Int} (h0 : 0 ≤ v) (h1 : v < 64) : Small (os.set k v) := fun j => by
  by_cases hk : k = j
  · subst hk
    by_cases hl : k < os.length
    · rw [List.getElem?_set_self hl]; exact ⟨h0, h1⟩
    · rw [List.set_eq_of_length_le (by omega)]; exact h k
  · rw [List.getElem?_set_ne hk]; exact h j

set_option maxRecDepth 100000 in
set_option maxHeartbeats 4000000 in
theorem renumbered_any (A A' : Option Addr) (n c m c' : Nat) (zs ts : List Int) (w : World) (h : Ints w w.heap.size A n zs) (h' : Ints w w.heap.size A' m ts) (hn6 : n ≤ 6) (hnm : n ≤ m) (hz : Small zs) (ht : ∀ j, j < n → 0 ≤ ts[j]?.getD 0 ∧ ts[j]?.getD 0 < n) :
    Calls Try.prog 129 #[.slice A n c, .slice A' m c'] w fun e w' => ∃ os, e = .returned (.slice (some ⟨w.heap.size, 0, none⟩) n n) ∧ os.length = n ∧ Arr w' w.heap.size 3 os ∧ Below w.heap.size w w' := by
  have hmk := run_make_row' (P := Try.prog) 23 3 (.int .i64 0) 8 Try.underlying23 infoInt rfl .i64 .i64 n (by omega) (by omega)
  go_enter Try.func129, Try.ntmps129
  go_wp2
  have hA1 := Arr.new w 3 n
  have hB1 : Below w.heap.size w (w.alloc (.cells (madeCells #[.int .i64 0] n) 3)) := (Below.refl _ _).alloc (Nat.le_refl _) _
  obtain ⟨W1, hW1⟩ : ∃ W1, w.alloc (.cells (madeCells #[.int .i64 0] n) 3) = W1 := ⟨_, rfl⟩
  rw [hW1] at hA1 hB1 ⊢
  clear hW1 hmk
  go_loopw [6] (fun i wr => ∃ (k : Nat) (os : List Int), k ≤ n ∧ i = .int .i64 k ∧ os.length = n ∧ Small os ∧ Arr wr w.heap.size 3 os ∧ Below w.heap.size w wr) (fun i _ => n - (intOf i).toNat)
  case atStart => exact ⟨0, _, by omega, rfl, by simp, Small.zero n, hA1, hB1⟩
  case round =>
    clear hA1 hB1
    obtain ⟨k, os, hk, rfl, hlen, hsm, hAr, hB⟩ := hrel
    by_cases hlt : k < n
    · go_wp2
      go_loopw [7] (fun i wr => ∃ (j : Nat) (os : List Int), j ≤ n ∧ i = .int .i64 j ∧ os.length = n ∧ Small os ∧ Arr wr w.heap.size 3 os ∧ Below w.heap.size w wr) (fun i _ => n - (intOf i).toNat)
      case atStart => exact ⟨0, os, by omega, rfl, hlen, hsm, hAr, hB⟩
      case round =>
        clear hlen hsm hAr hB
        obtain ⟨j, os, hj, rfl, hlen, hsm, hAr, hB⟩ := hrel
        by_cases hjn : j < n
        · obtain ⟨b, off, rfl, hbw, hc⟩ := (h.below hB).at_ hlt
          have hck := hc k hlt
          obtain ⟨b', off', rfl, hbw', hc'⟩ := (h'.below hB).at_ (k := k) (by omega)
          have htk := hc' k (by omega)
          have htj := hc' j (by omega)
          have hzk := hz k
          have hkm : k < m := by omega
          have hjm : j < m := by omega
          have t1 := ht k hlt
          have t2 := ht j hjn
          clear hc hc'
          generalize zs[k]?.getD 0 = z at *
          generalize ts[k]?.getD 0 = tk at *
          generalize ts[j]?.getD 0 = tj at *
          obtain ⟨x, rfl⟩ := Int.eq_ofNat_of_zero_le t1.1
          obtain ⟨y, rfl⟩ := Int.eq_ofNat_of_zero_le t2.1
          have hxn : x < n := by omega
          have hyn : y < n := by omega
          have hcs := hAr.cell (k := x) (by omega)
          have hfs := hAr.frozen x
          have hox := hsm x
          cases hb : bitB z j
          · have hbi : (bitI z j == 1) = false := by rw [bitI_one, hb]
            go_wp2_with (go_at_call 75; refine (bit_any _ _ _ (by omega) (by omega) (by omega) (by omega)).mono ?_; rintro e w' ⟨rfl, rfl⟩)
            go_roundw
            case rel => exact ⟨j + 1, os, by omega, by go_num, hlen, hsm, hAr, hB⟩
            case measure => simp [intOf]; omega
          · have hbi : (bitI z j == 1) = true := by rw [bitI_one, hb]
            have hpw : ∀ W, Calls Try.prog 77 #[.int .i64 (y : Int)] W fun e w'' => e = .returned (.int .i64 (powI y)) ∧ w'' = W := fun W => (power_any _ _ (by omega) (by omega)).mono fun _ _ ⟨h1, h2⟩ => ⟨h1, h2.symm⟩
            have hpk : powI (y : Int) < 64 := powI_lt (k := y) (n := 6) (by omega)
            have hpp := powI_pos (y : Int)
            have hsn := fun v h0 h1 => hsm.set (k := x) (v := v) h0 h1
            generalize os[x]?.getD 0 = d at *
            have hor : bits .or .i64 d (powI y) = orI d (powI y) := bits_or (by omega) (by omega) (by omega) (by omega)
            have hob := orI_bd (a := d) (b := powI y) (n := 6) hox.1 (by simpa [powI] using hox.2) (Int.le_of_lt hpp) (by simpa [powI] using hpk)
            have hob6 : 0 ≤ orI d (powI y) ∧ orI d (powI y) < 64 := by simpa [powI] using hob
            go_wp2_with (go_at_call 75; refine (bit_any _ _ _ (by omega) (by omega) (by omega) (by omega)).mono ?_; rintro e w' ⟨rfl, rfl⟩)
            obtain ⟨W2, hW2⟩ : ∃ W2, wr.drew = W2 := ⟨_, rfl⟩
            have k1 : W2.cell? ⟨b', off' + k, none⟩ = some (.int .i64 (x : Int)) := by rw [← hW2]; exact htk
            have k2 : W2.cell? ⟨b', off' + j, none⟩ = some (.int .i64 (y : Int)) := by rw [← hW2]; exact htj
            have k3 : W2.cell? ⟨w.heap.size, x, none⟩ = some (.int .i64 d) := by rw [← hW2]; exact hcs
            have k4 : W2.frozen? ⟨w.heap.size, x, none⟩ = false := by rw [← hW2]; exact hfs
            have kAr : Arr W2 w.heap.size 3 os := by rw [← hW2]; exact hAr
            have kB : Below w.heap.size w W2 := by rw [← hW2]; exact hB.drew
            refine wp_region_still_tail 19 (by kernel_rfl) (by kernel_rfl) ?_
            simp only [List.take_succ_cons, List.take_zero, List.drop_succ_cons, List.drop_zero]
            change wpStill _ _ wr.drew (fun a' => wpList _ _ _ _ a' wr.drew) _ _
            rw [hW2]
            clear hW2 htk htj hcs hfs hAr hB
            repeat (first | still_step | still_call (hpw _))
            refine wpStill_nil ?_
            go_wp2
            go_roundw
            case rel => exact ⟨j + 1, os.set x (orI d (powI y)), by omega, by go_num, by simpa using hlen, hsn _ hob6.1 hob6.2, kAr.set _ _, kB.setCell (p := ⟨w.heap.size, x, none⟩) (Nat.le_refl _) _⟩
            case measure => simp [intOf]; omega
        · obtain rfl : j = n := by omega
          go_wp2
          go_roundw
          case rel => exact ⟨k + 1, os, by omega, by go_num, hlen, hsm, hAr, hB⟩
          case measure => simp [intOf]; omega
    · obtain rfl : k = n := by omega
      go_wp2
      go_ret
      exact ⟨os, rfl, hlen, hAr, hB⟩
end Go.Proofs.Ythjmedbjdjkilaa

/- An order that is drawn. -/
namespace Go.Proofs.Ythjmedbjdjkilaa
open Go.RowKit Go.Shelf

theorem addr_add (b k j : Nat) : (⟨b, k, none⟩ : Addr).add j = ⟨b, k + j, none⟩ := by unfold Addr.add; split <;> simp_all
/-- Pairs that are written out: a block each, then the row of their slices. -/
def litA (w : World) : List (Int × Int) → World
  | [] => w
  | r :: rs => litA (w.alloc (.cells #[.int .i64 r.1, .int .i64 r.2] 3)) rs
def litV (b : Nat) : List (Int × Int) → List Value
  | [] => []
  | _ :: rs => .slice (some ⟨b, 0, none⟩) 2 2 :: litV (b + 1) rs
def litN (b : Nat) : List (Int × Int) → Nat
  | [] => b
  | _ :: rs => litN (b + 1) rs
def litW (w : World) (rs : List (Int × Int)) : World := (litA w rs).alloc (.cells (litV w.heap.size rs).toArray 23)
theorem litA_upd : ∀ (rs : List (Int × Int)) (w : World), Upd (fun _ => False) w (litA w rs)
  | [], w => Upd.refl _ w
  | _ :: rs, w => (((Upd.refl (fun _ => False) w).alloc _)).trans (litA_upd rs _)
theorem litA_size : ∀ (rs : List (Int × Int)) (w : World), (litA w rs).heap.size = litN w.heap.size rs ∧ litN w.heap.size rs = w.heap.size + rs.length
  | [], w => ⟨rfl, rfl⟩
  | r :: rs, w => by
    have h := litA_size rs (w.alloc (.cells #[.int .i64 r.1, .int .i64 r.2] 3))
    rw [World.size_alloc] at h
    refine ⟨h.1, ?_⟩
    show litN (w.heap.size + 1) rs = _
    rw [h.2, List.length_cons]; omega
theorem litA_row : ∀ (rs : List (Int × Int)) (w : World) (j : Nat) (hj : j < rs.length), Arr (litA w rs) (w.heap.size + j) 3 [rs[j].1, rs[j].2]
  | [], _, j, hj => by simp at hj
  | r :: rs, w, 0, _ => by
    have hA : Arr (w.alloc (.cells #[.int .i64 r.1, .int .i64 r.2] 3)) w.heap.size 3 [r.1, r.2] := heap_alloc_new w _
    exact hA.upd (litA_upd rs _) (fun e => e)
  | r :: rs, w, j + 1, hj => by
    have h := litA_row rs (w.alloc (.cells #[.int .i64 r.1, .int .i64 r.2] 3)) j (by simpa using hj)
    rw [World.size_alloc, show w.heap.size + 1 + j = w.heap.size + (j + 1) by omega] at h
    exact h
theorem litV_get : ∀ (rs : List (Int × Int)) (b j : Nat), j < rs.length → (litV b rs)[j]? = some (.slice (some ⟨b + j, 0, none⟩) 2 2)
  | [], _, j, hj => by simp at hj
  | _ :: rs, b, 0, _ => rfl
  | _ :: rs, b, j + 1, hj => by
    have h := litV_get rs (b + 1) j (by simpa using hj)
    rw [show b + 1 + j = b + (j + 1) by omega] at h
    simpa [litV] using h
theorem litRows (w : World) (rs : List (Int × Int)) : IntsS (litW w rs) (litW w rs).heap.size (some ⟨litN w.heap.size rs, 0, none⟩) rs.length (rs.map fun r => [r.1, r.2]) := by
  refine ⟨by simp, fun _ => ⟨litN w.heap.size rs, 0, rfl, by unfold litW; rw [World.size_alloc, (litA_size rs w).1]; omega, fun j hj => ?_⟩⟩
  have hA := (litA_row rs w j hj).alloc (.cells (litV w.heap.size rs).toArray 23)
  have hg : (rs.map fun r => [r.1, r.2])[j]?.getD [] = [rs[j].1, rs[j].2] := by simp [hj]
  rw [hg]
  refine ⟨_, 2, ?_, hA.ints (by have := hA.lt; exact this)⟩
  have hc := heap_alloc_new (litA w rs) (.cells (litV w.heap.size rs).toArray 23)
  rw [(litA_size rs w).1] at hc
  rw [Nat.zero_add]
  refine (cell_of_row _ _ _ _ _ _ hc).trans ?_
  simpa using litV_get rs w.heap.size j hj
theorem litW_upd (w : World) (rs : List (Int × Int)) : Upd (fun _ => False) w (litW w rs) := (litA_upd rs w).alloc _

theorem ordL_small (n : Int) (rs : List (List Int)) : Small (ordL n rs) ∧ ((ordL n rs).length = 0 ∨ ((ordL n rs).length : Int) = n) ∧ (ordL n rs).length ≤ 6 := by
  cases hok : ordOk n rs with
  | false => simp [ordL, hok, Small]
  | true =>
    obtain ⟨h1, h2, _⟩ := ord_is hok
    refine ⟨fun j => ?_, .inr h2, h1.1⟩
    by_cases hj : j < (ordL n rs).length
    · exact h1.bd j hj
    · rw [List.getElem?_eq_none (by omega)]; simp

set_option maxRecDepth 100000 in
set_option maxHeartbeats 8000000 in
theorem goodOrder_any (R p : Nat) (w : World) (h : Rd w R p) (hp : p ≤ 800000) :
    Calls Try.prog 103 #[.pointer (some ⟨R, 0, none⟩), .int .i64 6] w fun e w' => ∃ A n c zs q, e = .returned (.slice A n c) ∧ n ≤ 6 ∧ Row w' w.heap.size w'.heap.size A n zs ∧ q ≤ 100 ∧ Rd w' R (p + q) ∧ Upd (fun k => k = R) w w' := by
  have hRl := h.lt
  obtain ⟨i0, hi0, hz0, hz1, hz2⟩ := infoRow_parts
  obtain ⟨i1, hi1, hzi1, hsi1, hbi1⟩ := info_parts infoInt
  go_enter Try.func103, Try.ntmps103
  go_wp2_with fail
  have hu1 : Upd (fun k => k = R) w (w.alloc (.cells #[Value.int .i64 4, .int .i64 5, .int .i64 6, .int .i64 3, .int .i64 5, .int .i64 6, .int .i64 2, .int .i64 1, .int .i64 4, .int .i64 0] 3)) := (Upd.refl _ _).alloc _
  have hL : Arr (w.alloc (.cells #[Value.int .i64 4, .int .i64 5, .int .i64 6, .int .i64 3, .int .i64 5, .int .i64 6, .int .i64 2, .int .i64 1, .int .i64 4, .int .i64 0] 3)) w.heap.size 3 [4, 5, 6, 3, 5, 6, 2, 1, 4, 0] := heap_alloc_new w _
  have hR1 := h.upd ((Upd.refl (fun _ => False) w).alloc (.cells #[Value.int .i64 4, .int .i64 5, .int .i64 6, .int .i64 3, .int .i64 5, .int .i64 6, .int .i64 2, .int .i64 1, .int .i64 4, .int .i64 0] 3)) (fun _ e => e.elim)
  obtain ⟨W1, hW1⟩ : ∃ W1, w.alloc (.cells #[Value.int .i64 4, .int .i64 5, .int .i64 6, .int .i64 3, .int .i64 5, .int .i64 6, .int .i64 2, .int .i64 1, .int .i64 4, .int .i64 0] 3) = W1 := ⟨_, rfl⟩
  rw [hW1] at hu1 hL hR1 ⊢
  clear hW1
  refine (one_any R p _ 10 10 _ _ W1 hR1 (by omega) (hL.ints' (n := 10) hL.lt rfl) (fun b off e => by cases e; omega) (by omega) (by omega)).mono ?_
  rintro e w2 ⟨v0, rfl, hv0, hR2, hU2⟩
  have hv9 : 0 ≤ v0 ∧ v0 ≤ 6 := by simp at hv0; omega
  obtain ⟨K, rfl⟩ := Int.eq_ofNat_of_zero_le hv9.1
  have hu2 := hu1.trans hU2
  clear hv0 hL hU2 hR1 hu1
  have hK6 : K ≤ 6 := by omega
  have hRw2 : Upd (fun k => k = R) w w2 := hu2
  clear hu2 hv9
  go_wp2_with fail
  refine (somePairs_any R (p + 1) K w2 hR2 (by omega)).mono ?_
  rintro e w3 ⟨v3, rs3, q3, rfl, hRo3, ⟨hl3, hr3⟩, hq3, hR3, hU3⟩
  have hRw3 := hRw2.trans hU3
  have hz2' := hRw2.size
  have hz3' := hRw3.size
  clear hR2
  go_wp2_with fail
  refine (pick_any R (p + 1 + q3) 10 w3 hR3 (by omega)).mono ?_
  rintro e w4 ⟨x, rfl, hx, hR4, hU4⟩
  have hRw4 := hRw3.trans hU4
  have hz4' := hRw4.size
  have hRo4 := hRo3.keep hU4 (fun j e => by omega)
  have hF4 := hRo4.few (by omega) (fun r hr => by rw [hr3 r hr]; omega)
  clear hRo3 hRo4
  have hx9 := hx.1 (by omega)
  clear hx hR3
  by_cases x0 : x = 0
  · subst x0
    go_wp2_with fail
    have hL := litRows w4 [(0, 3), (0, 4), (1, 3), (1, 5), (2, 4), (2, 5)]
    have hup := litW_upd w4 [(0, 3), (0, 4), (1, 3), (1, 5), (2, 4), (2, 5)]
    refine (specOrderOf_any 6 _ 6 6 _ (litW w4 [(0, 3), (0, 4), (1, 3), (1, 5), (2, 4), (2, 5)]) hL (by simp) (by simp)).mono ?_
    rintro e w5 ⟨A5, m5, c5, rfl, r5, hB5⟩
    have hzL := hup.size
    have hRw5 := (hRw4.trans (hup.mono fun _ _ e => e.elim)).below hB5 (fun k h1 h2 => by omega)
    have hR5 := (hR4.upd hup (fun _ e => e.elim)).below hB5 (by omega)
    have hr5 := r5.more (lo' := w.heap.size) (by omega) (Nat.le_refl _)
    have hos := ordL_small 6 (([(0, 3), (0, 4), (1, 3), (1, 5), (2, 4), (2, 5)] : List (Int × Int)).map fun r => [r.1, r.2])
    obtain ⟨zs5, hzs5⟩ : ∃ zs5, ordL 6 (([(0, 3), (0, 4), (1, 3), (1, 5), (2, 4), (2, 5)] : List (Int × Int)).map fun r => [r.1, r.2]) = zs5 := ⟨_, rfl⟩
    rw [hzs5] at hos hr5
    obtain ⟨hsm, hml, hm6⟩ := hos
    rw [hr5.len] at hml hm6
    have hob : ∃ bb : Bool, ordOk 6 (([(0, 3), (0, 4), (1, 3), (1, 5), (2, 4), (2, 5)] : List (Int × Int)).map fun r => [r.1, r.2]) = bb := ⟨_, rfl⟩
    obtain ⟨bb, hbb⟩ := hob
    rw [hbb]
    generalize hp5 : p + 1 + q3 + 1 = p5 at *
    have hp5' : p5 ≤ p + 40 := by omega
    obtain ⟨N, hN1', hN2'⟩ : ∃ N : Nat, N ≤ 6 ∧ 6 ≤ N := ⟨6, Nat.le_refl _, Nat.le_refl _⟩
    clear r5 hL hB5 hR4 hRw4 hup hzL
    go_wp2_with fail
    refine (pick_any R p5 3 w5 hR5 (by omega)).mono ?_
    rintro e w6 ⟨y, rfl, hy, hR6, hU6⟩
    have hRw6 := hRw5.trans hU6
    have hz6 := hRw6.size
    have hr6 := hr5.upd hU6 (fun j e => by omega)
    by_cases hyn : y = 0 ∧ 1 < N
    · obtain ⟨rfl, hN1⟩ := hyn
      try have hK1 : (1 : Int) < (K : Int) := by omega
      go_wp2_with fail
      go_loopw [10, 11] (fun v i wr => ∃ (k bt cp : Nat) (ts : List Int), k ≤ N ∧ i = .int .i64 k ∧ v = .slice (some ⟨bt, 0, none⟩) k cp ∧ (k ≤ cp ∧ cp ≤ maxLen) ∧ (bt < wr.heap.size ∧ w6.heap.size ≤ bt) ∧ ts.length = k ∧ (∀ x ∈ ts, (0 : Int) ≤ x ∧ x < k) ∧ (∀ j, j < k → wr.cell? ⟨bt, j, none⟩ = some (.int .i64 (ts[j]?.getD 0))) ∧ Rd wr R (p5 + 1 + k) ∧ Upd (fun k => k = R) w6 wr) (fun _ i _ => N - (intOf i).toNat)
      case atStart => exact ⟨0, w6.heap.size, 0, [], by omega, rfl, rfl, ⟨by omega, by simp [maxLen]⟩, ⟨by simp, by omega⟩, rfl, (fun x hx => by simp at hx), fun j hj => by omega, hR6.upd ((Upd.refl (fun _ => False) w6).alloc _) (fun _ e => e.elim), (Upd.refl _ _).alloc _⟩
      case round =>
        obtain ⟨k, bt, cp, ts, hk, rfl, rfl, ⟨hkc, hcm⟩, ⟨hbt, hbt6⟩, htl, htb, htc, hRd, hU⟩ := hrel
        have zU := hU.size
        by_cases hlt : k < N
        · go_wp2_with fail
          refine (pick_any R (p5 + 1 + k) (k + 1) _ hRd (by omega)).mono ?_
          rintro e w7 ⟨y, rfl, hy, hR7, hU7⟩
          have hy2 := hy.1 (by omega)
          obtain ⟨h, rfl⟩ := Int.eq_ofNat_of_zero_le hy2.1
          have hhk : h ≤ k := by omega
          have htc7 : ∀ j, j < k → w7.cell? ⟨bt, j, none⟩ = some (.int .i64 (ts[j]?.getD 0)) := fun j hj => hU7.cell (htc j hj) (by simp; omega)
          have hUw7 := hU.trans hU7
          have z7 := hU7.size
          clear hy hy2 htc hU hU7 hRd
          go_wp2_with fail
          obtain ⟨AD, hAD⟩ : ∃ AD, (if cp = h then some (⟨bt, 0, none⟩ : Addr) else some ⟨bt, h, none⟩) = some AD := by split <;> exact ⟨_, rfl⟩
          have hadd : ∀ j, j < (ts.drop h).length → AD.add j = ⟨bt, h + j, none⟩ := fun j hj => by
            have hne : ¬ cp = h := fun e => by simp at hj; omega
            rw [if_neg hne] at hAD
            cases hAD
            exact addr_add ..
          have hadd0 : ∀ j, j < (ts.take h).length → (⟨bt, 0, none⟩ : Addr).add j = ⟨bt, 0 + j, none⟩ := fun j hj => addr_add ..
          have htk : (ts.take h).length = h := by simp; omega
          have htd : (ts.drop h).length = k - h := by simp; omega
          have hgt : ∀ j, j < (ts.take h).length → (ts.take h)[j]?.getD 0 = ts[0 + j]?.getD 0 := fun j hj => by rw [Nat.zero_add, List.getElem?_take_of_lt (by omega)]
          have hgd : ∀ j, j < (ts.drop h).length → (ts.drop h)[j]?.getD 0 = ts[h + j]?.getD 0 := fun j hj => by rw [List.getElem?_drop]
          have hone : ∀ (zs : List Int), ∀ u ∈ zs.map (Value.int .i64), u.oneCell' = true := fun zs u hu => by
            obtain ⟨z, _, rfl⟩ := List.mem_map.1 hu; rfl
          have hbt7 : bt < w7.heap.size := by omega
          have hkN : k < 6 := by omega
          have hhc : h ≤ cp := by omega
          have hhc' : (h : Int) ≤ (cp : Int) := by omega
          have hhk' : (h : Int) ≤ (k : Int) := by omega
          go_region_law (first
            | (refine step_append_any _ rfl (.tmp 94) (.tmp 97) _ (by rfl) w7.heap.size 3 i1 _ 8 Try.underlying23 hi1 hzi1 hsi1 hbi1 rfl (.slice (some ⟨_, 0, none⟩) 0 0) 0 [] (by rfl) (by simp) (by first | exact own_new2 _ _ _ | exact own_sooner (own_new _ _) (by first | (simp; done) | (simp; omega)) | exact own_sooner ((own_new _ _).alloc _) (by first | (simp; done) | (simp; omega))) ⟨bt, 0, none⟩ h cp _ (by rfl) (by rw [List.length_map]; exact htk) (news_at htc7 (by repeat' (first | exact Upd.refl _ _ | assumption | refine Upd.alloc ?_ _ | refine Upd.drew ?_)) hbt7 hadd0 hgt (by omega)) (hone _) (by simp [maxLen]; omega) (by omega) (by first | (simp; done) | (simp; omega)) ?_; intro g1 cap1 x1 hown1 hgrow1 hg1 hl1 hc1 hm1; rw [Nat.zero_add] at hown1; have hU1 : Upd (fun k => w7.heap.size ≤ k) w7 x1 := Upd.grown (by repeat' (first | exact Upd.refl _ _ | assumption | refine Upd.alloc ?_ _ | refine Upd.drew ?_)) hgrow1 (fun q hq => by simp [Value.ownBlock] at hq; omega))
            | (refine step_append_any _ rfl (.tmp 98) (.tmp 100) _ (by rfl) w7.heap.size 3 i1 _ 8 Try.underlying23 hi1 hzi1 hsi1 hbi1 rfl (.slice (some ⟨g1, 0, none⟩) h cap1) h _ (by rfl) (by simp) (by first | exact hown1 | exact hown1.alloc _) ⟨_, 0, none⟩ 1 1 [.int .i64 (k : Int)] (by rfl) rfl (by first | exact news_one (cell_new _ _ _) | exact news_one ((hgrow1.cell_far _ (by first | (simp; done) | (simp; omega)) (by simp [Value.ownBlock])).trans (draw_cell_new2 _ _ _ _)) | exact news_one ((hgrow1.cell_far _ (by first | (simp; done) | (simp; omega)) (by simp [Value.ownBlock])).trans (cell_new _ _ _)) | exact news_one ((hgrow1.cell_far _ (by first | (simp; done) | (simp; omega)) (by simp [Value.ownBlock])).trans (cell_new_alloc _ _ _ _)) | exact news_one ((hgrow1.cell_far _ (by first | (simp; done) | (simp; omega)) (by simp [Value.ownBlock])).trans (cell_new _ _ _))) (by simp [Value.oneCell']) (by simp [maxLen]; omega) (by omega) (by have := hU1.size; simp; omega) ?_; intro g2 cap2 x2 hown2 hgrow2 hg2 hl2 hc2 hm2; have hU2 : Upd (fun k => w7.heap.size ≤ k) w7 x2 := Upd.grown (by repeat' (first | exact Upd.refl _ _ | assumption | refine Upd.alloc ?_ _ | refine Upd.drew ?_)) hgrow2 (fun q hq => by simp [Value.ownBlock] at hq; omega))
            | (refine step_append_any _ rfl (.tmp 101) (.tmp 104) _ (by rfl) w7.heap.size 3 i1 _ 8 Try.underlying23 hi1 hzi1 hsi1 hbi1 rfl (.slice (some ⟨g2, 0, none⟩) (h + 1) cap2) (h + 1) _ (by rfl) (by simp) hown2 AD (k - h) _ _ (by simp [Act.eval]; rfl) (by rw [List.length_map]; exact htd) (news_at htc7 hU2 hbt7 hadd hgd (by omega)) (hone _) (by simp [maxLen]; omega) (by omega) (by have := hU2.size; omega) ?_; intro g3 cap3 x3 hown3 hgrow3 hg3 hl3 hc3 hm3; have hU3 : Upd (fun k => w7.heap.size ≤ k) w7 x3 := Upd.grown hU2 hgrow3 (fun q hq => by simp [Value.ownBlock] at hq; omega)))
          all_goals
            have e3 : ([] ++ (ts.take h).map (Value.int .i64) ++ [Value.int .i64 (k : Int)]) ++ (ts.drop h).map (Value.int .i64) = (ts.take h ++ [(k : Int)] ++ ts.drop h).map (Value.int .i64) := by simp
            rw [e3] at hown3
            have hn3 : h + 1 + (k - h) = k + 1 := by omega
            rw [hn3] at hown3 hc3
            obtain ⟨hl3', hc3'⟩ := own_cells hown3
            simp only [hn3]
            have htb' : ∀ x ∈ ts.take h ++ [(k : Int)] ++ ts.drop h, (0 : Int) ≤ x ∧ x < ((k + 1 : Nat) : Int) := fun x hx => by
              rcases List.mem_append.1 hx with hx | hx
              · rcases List.mem_append.1 hx with hx | hx
                · have := htb x (List.mem_of_mem_take hx); omega
                · have := List.mem_singleton.1 hx; omega
              · have := htb x (List.mem_of_mem_drop hx); omega
            have hR8 : Rd x3 R (p5 + 1 + (k + 1)) := hR7.upd hU3 (fun q hq => by omega)
            have hU8 : Upd (fun k => k = R) w6 x3 := hUw7.trans' hU3 (fun i hi e => by omega)
            go_wp2
            go_roundw
            case rel => exact ⟨k + 1, g3, cap3, ts.take h ++ [(k : Int)] ++ ts.drop h, by omega, by go_num, rfl, ⟨hc3, hm3⟩, ⟨hl3, by omega⟩, hl3', htb', hc3', hR8, hU8⟩
            case measure => simp [intOf]; omega
        · obtain rfl : k = N := by omega
          go_wp2_with fail
          refine (renumbered_any A5 (some ⟨bt, 0, none⟩) m5 c5 k cp zs5 ts wr ((hr6.upd hU (fun j e => by omega)).ints (by have := hU6.size; omega)) ⟨htl, fun _ => ⟨bt, 0, rfl, hbt, fun j hj => by rw [Nat.zero_add]; exact htc j hj⟩⟩ hm6 (by omega) hsm (fun j hj => by
            have hjl : j < ts.length := by omega
            have := htb ts[j] (List.getElem_mem hjl)
            rw [List.getElem?_eq_getElem hjl, Option.getD_some]
            omega)).mono ?_
          rintro e w8 ⟨os, rfl, hos, hArr, hB8⟩
          go_wp2
          go_ret
          exact ⟨_, m5, m5, os, p5 + 1 + k - p, rfl, by omega, Row.of hArr hos (by omega) hArr.lt, by omega, by rw [show p + (p5 + 1 + k - p) = p5 + 1 + k by omega]; exact hRd.below hB8 (by omega), (hRw6.trans hU).below hB8 (fun k h1 h2 => by omega)⟩
    · by_cases hy0 : y = 0
      · subst hy0
        have hN1 : ¬ 1 < N := fun e => hyn ⟨rfl, e⟩
        first
          | (exfalso; omega)
          | (go_wp2; go_ret; exact ⟨A5, m5, c5, zs5, p5 + 1 - p, rfl, by omega, hr6.more (Nat.le_refl _) hU6.size, by omega, by rw [show p + (p5 + 1 - p) = p5 + 1 by omega]; exact hR6, hRw6⟩)
      · go_wp2
        go_ret
        exact ⟨A5, m5, c5, zs5, p5 + 1 - p, rfl, by omega, hr6.more (Nat.le_refl _) hU6.size, by omega, by rw [show p + (p5 + 1 - p) = p5 + 1 by omega]; exact hR6, hRw6⟩
  by_cases x1 : x = 1
  · subst x1
    go_wp2_with fail
    have hL := litRows w4 [(0, 2), (1, 2), (1, 3)]
    have hup := litW_upd w4 [(0, 2), (1, 2), (1, 3)]
    refine (specOrderOf_any 4 _ 3 3 _ (litW w4 [(0, 2), (1, 2), (1, 3)]) hL (by simp) (by simp)).mono ?_
    rintro e w5 ⟨A5, m5, c5, rfl, r5, hB5⟩
    have hzL := hup.size
    have hRw5 := (hRw4.trans (hup.mono fun _ _ e => e.elim)).below hB5 (fun k h1 h2 => by omega)
    have hR5 := (hR4.upd hup (fun _ e => e.elim)).below hB5 (by omega)
    have hr5 := r5.more (lo' := w.heap.size) (by omega) (Nat.le_refl _)
    have hos := ordL_small 4 (([(0, 2), (1, 2), (1, 3)] : List (Int × Int)).map fun r => [r.1, r.2])
    obtain ⟨zs5, hzs5⟩ : ∃ zs5, ordL 4 (([(0, 2), (1, 2), (1, 3)] : List (Int × Int)).map fun r => [r.1, r.2]) = zs5 := ⟨_, rfl⟩
    rw [hzs5] at hos hr5
    obtain ⟨hsm, hml, hm6⟩ := hos
    rw [hr5.len] at hml hm6
    have hob : ∃ bb : Bool, ordOk 4 (([(0, 2), (1, 2), (1, 3)] : List (Int × Int)).map fun r => [r.1, r.2]) = bb := ⟨_, rfl⟩
    obtain ⟨bb, hbb⟩ := hob
    rw [hbb]
    generalize hp5 : p + 1 + q3 + 1 = p5 at *
    have hp5' : p5 ≤ p + 40 := by omega
    obtain ⟨N, hN1', hN2'⟩ : ∃ N : Nat, N ≤ 4 ∧ 4 ≤ N := ⟨4, Nat.le_refl _, Nat.le_refl _⟩
    clear r5 hL hB5 hR4 hRw4 hup hzL
    go_wp2_with fail
    refine (pick_any R p5 3 w5 hR5 (by omega)).mono ?_
    rintro e w6 ⟨y, rfl, hy, hR6, hU6⟩
    have hRw6 := hRw5.trans hU6
    have hz6 := hRw6.size
    have hr6 := hr5.upd hU6 (fun j e => by omega)
    by_cases hyn : y = 0 ∧ 1 < N
    · obtain ⟨rfl, hN1⟩ := hyn
      try have hK1 : (1 : Int) < (K : Int) := by omega
      go_wp2_with fail
      go_loopw [10, 11] (fun v i wr => ∃ (k bt cp : Nat) (ts : List Int), k ≤ N ∧ i = .int .i64 k ∧ v = .slice (some ⟨bt, 0, none⟩) k cp ∧ (k ≤ cp ∧ cp ≤ maxLen) ∧ (bt < wr.heap.size ∧ w6.heap.size ≤ bt) ∧ ts.length = k ∧ (∀ x ∈ ts, (0 : Int) ≤ x ∧ x < k) ∧ (∀ j, j < k → wr.cell? ⟨bt, j, none⟩ = some (.int .i64 (ts[j]?.getD 0))) ∧ Rd wr R (p5 + 1 + k) ∧ Upd (fun k => k = R) w6 wr) (fun _ i _ => N - (intOf i).toNat)
      case atStart => exact ⟨0, w6.heap.size, 0, [], by omega, rfl, rfl, ⟨by omega, by simp [maxLen]⟩, ⟨by simp, by omega⟩, rfl, (fun x hx => by simp at hx), fun j hj => by omega, hR6.upd ((Upd.refl (fun _ => False) w6).alloc _) (fun _ e => e.elim), (Upd.refl _ _).alloc _⟩
      case round =>
        obtain ⟨k, bt, cp, ts, hk, rfl, rfl, ⟨hkc, hcm⟩, ⟨hbt, hbt6⟩, htl, htb, htc, hRd, hU⟩ := hrel
        have zU := hU.size
        by_cases hlt : k < N
        · go_wp2_with fail
          refine (pick_any R (p5 + 1 + k) (k + 1) _ hRd (by omega)).mono ?_
          rintro e w7 ⟨y, rfl, hy, hR7, hU7⟩
          have hy2 := hy.1 (by omega)
          obtain ⟨h, rfl⟩ := Int.eq_ofNat_of_zero_le hy2.1
          have hhk : h ≤ k := by omega
          have htc7 : ∀ j, j < k → w7.cell? ⟨bt, j, none⟩ = some (.int .i64 (ts[j]?.getD 0)) := fun j hj => hU7.cell (htc j hj) (by simp; omega)
          have hUw7 := hU.trans hU7
          have z7 := hU7.size
          clear hy hy2 htc hU hU7 hRd
          go_wp2_with fail
          obtain ⟨AD, hAD⟩ : ∃ AD, (if cp = h then some (⟨bt, 0, none⟩ : Addr) else some ⟨bt, h, none⟩) = some AD := by split <;> exact ⟨_, rfl⟩
          have hadd : ∀ j, j < (ts.drop h).length → AD.add j = ⟨bt, h + j, none⟩ := fun j hj => by
            have hne : ¬ cp = h := fun e => by simp at hj; omega
            rw [if_neg hne] at hAD
            cases hAD
            exact addr_add ..
          have hadd0 : ∀ j, j < (ts.take h).length → (⟨bt, 0, none⟩ : Addr).add j = ⟨bt, 0 + j, none⟩ := fun j hj => addr_add ..
          have htk : (ts.take h).length = h := by simp; omega
          have htd : (ts.drop h).length = k - h := by simp; omega
          have hgt : ∀ j, j < (ts.take h).length → (ts.take h)[j]?.getD 0 = ts[0 + j]?.getD 0 := fun j hj => by rw [Nat.zero_add, List.getElem?_take_of_lt (by omega)]
          have hgd : ∀ j, j < (ts.drop h).length → (ts.drop h)[j]?.getD 0 = ts[h + j]?.getD 0 := fun j hj => by rw [List.getElem?_drop]
          have hone : ∀ (zs : List Int), ∀ u ∈ zs.map (Value.int .i64), u.oneCell' = true := fun zs u hu => by
            obtain ⟨z, _, rfl⟩ := List.mem_map.1 hu; rfl
          have hbt7 : bt < w7.heap.size := by omega
          have hkN : k < 6 := by omega
          have hhc : h ≤ cp := by omega
          have hhc' : (h : Int) ≤ (cp : Int) := by omega
          have hhk' : (h : Int) ≤ (k : Int) := by omega
          go_region_law (first
            | (refine step_append_any _ rfl (.tmp 94) (.tmp 97) _ (by rfl) w7.heap.size 3 i1 _ 8 Try.underlying23 hi1 hzi1 hsi1 hbi1 rfl (.slice (some ⟨_, 0, none⟩) 0 0) 0 [] (by rfl) (by simp) (by first | exact own_new2 _ _ _ | exact own_sooner (own_new _ _) (by first | (simp; done) | (simp; omega)) | exact own_sooner ((own_new _ _).alloc _) (by first | (simp; done) | (simp; omega))) ⟨bt, 0, none⟩ h cp _ (by rfl) (by rw [List.length_map]; exact htk) (news_at htc7 (by repeat' (first | exact Upd.refl _ _ | assumption | refine Upd.alloc ?_ _ | refine Upd.drew ?_)) hbt7 hadd0 hgt (by omega)) (hone _) (by simp [maxLen]; omega) (by omega) (by first | (simp; done) | (simp; omega)) ?_; intro g1 cap1 x1 hown1 hgrow1 hg1 hl1 hc1 hm1; rw [Nat.zero_add] at hown1; have hU1 : Upd (fun k => w7.heap.size ≤ k) w7 x1 := Upd.grown (by repeat' (first | exact Upd.refl _ _ | assumption | refine Upd.alloc ?_ _ | refine Upd.drew ?_)) hgrow1 (fun q hq => by simp [Value.ownBlock] at hq; omega))
            | (refine step_append_any _ rfl (.tmp 98) (.tmp 100) _ (by rfl) w7.heap.size 3 i1 _ 8 Try.underlying23 hi1 hzi1 hsi1 hbi1 rfl (.slice (some ⟨g1, 0, none⟩) h cap1) h _ (by rfl) (by simp) (by first | exact hown1 | exact hown1.alloc _) ⟨_, 0, none⟩ 1 1 [.int .i64 (k : Int)] (by rfl) rfl (by first | exact news_one (cell_new _ _ _) | exact news_one ((hgrow1.cell_far _ (by first | (simp; done) | (simp; omega)) (by simp [Value.ownBlock])).trans (draw_cell_new2 _ _ _ _)) | exact news_one ((hgrow1.cell_far _ (by first | (simp; done) | (simp; omega)) (by simp [Value.ownBlock])).trans (cell_new _ _ _)) | exact news_one ((hgrow1.cell_far _ (by first | (simp; done) | (simp; omega)) (by simp [Value.ownBlock])).trans (cell_new_alloc _ _ _ _)) | exact news_one ((hgrow1.cell_far _ (by first | (simp; done) | (simp; omega)) (by simp [Value.ownBlock])).trans (cell_new _ _ _))) (by simp [Value.oneCell']) (by simp [maxLen]; omega) (by omega) (by have := hU1.size; simp; omega) ?_; intro g2 cap2 x2 hown2 hgrow2 hg2 hl2 hc2 hm2; have hU2 : Upd (fun k => w7.heap.size ≤ k) w7 x2 := Upd.grown (by repeat' (first | exact Upd.refl _ _ | assumption | refine Upd.alloc ?_ _ | refine Upd.drew ?_)) hgrow2 (fun q hq => by simp [Value.ownBlock] at hq; omega))
            | (refine step_append_any _ rfl (.tmp 101) (.tmp 104) _ (by rfl) w7.heap.size 3 i1 _ 8 Try.underlying23 hi1 hzi1 hsi1 hbi1 rfl (.slice (some ⟨g2, 0, none⟩) (h + 1) cap2) (h + 1) _ (by rfl) (by simp) hown2 AD (k - h) _ _ (by simp [Act.eval]; rfl) (by rw [List.length_map]; exact htd) (news_at htc7 hU2 hbt7 hadd hgd (by omega)) (hone _) (by simp [maxLen]; omega) (by omega) (by have := hU2.size; omega) ?_; intro g3 cap3 x3 hown3 hgrow3 hg3 hl3 hc3 hm3; have hU3 : Upd (fun k => w7.heap.size ≤ k) w7 x3 := Upd.grown hU2 hgrow3 (fun q hq => by simp [Value.ownBlock] at hq; omega)))
          all_goals
            have e3 : ([] ++ (ts.take h).map (Value.int .i64) ++ [Value.int .i64 (k : Int)]) ++ (ts.drop h).map (Value.int .i64) = (ts.take h ++ [(k : Int)] ++ ts.drop h).map (Value.int .i64) := by simp
            rw [e3] at hown3
            have hn3 : h + 1 + (k - h) = k + 1 := by omega
            rw [hn3] at hown3 hc3
            obtain ⟨hl3', hc3'⟩ := own_cells hown3
            simp only [hn3]
            have htb' : ∀ x ∈ ts.take h ++ [(k : Int)] ++ ts.drop h, (0 : Int) ≤ x ∧ x < ((k + 1 : Nat) : Int) := fun x hx => by
              rcases List.mem_append.1 hx with hx | hx
              · rcases List.mem_append.1 hx with hx | hx
                · have := htb x (List.mem_of_mem_take hx); omega
                · have := List.mem_singleton.1 hx; omega
              · have := htb x (List.mem_of_mem_drop hx); omega
            have hR8 : Rd x3 R (p5 + 1 + (k + 1)) := hR7.upd hU3 (fun q hq => by omega)
            have hU8 : Upd (fun k => k = R) w6 x3 := hUw7.trans' hU3 (fun i hi e => by omega)
            go_wp2
            go_roundw
            case rel => exact ⟨k + 1, g3, cap3, ts.take h ++ [(k : Int)] ++ ts.drop h, by omega, by go_num, rfl, ⟨hc3, hm3⟩, ⟨hl3, by omega⟩, hl3', htb', hc3', hR8, hU8⟩
            case measure => simp [intOf]; omega
        · obtain rfl : k = N := by omega
          go_wp2_with fail
          refine (renumbered_any A5 (some ⟨bt, 0, none⟩) m5 c5 k cp zs5 ts wr ((hr6.upd hU (fun j e => by omega)).ints (by have := hU6.size; omega)) ⟨htl, fun _ => ⟨bt, 0, rfl, hbt, fun j hj => by rw [Nat.zero_add]; exact htc j hj⟩⟩ hm6 (by omega) hsm (fun j hj => by
            have hjl : j < ts.length := by omega
            have := htb ts[j] (List.getElem_mem hjl)
            rw [List.getElem?_eq_getElem hjl, Option.getD_some]
            omega)).mono ?_
          rintro e w8 ⟨os, rfl, hos, hArr, hB8⟩
          go_wp2
          go_ret
          exact ⟨_, m5, m5, os, p5 + 1 + k - p, rfl, by omega, Row.of hArr hos (by omega) hArr.lt, by omega, by rw [show p + (p5 + 1 + k - p) = p5 + 1 + k by omega]; exact hRd.below hB8 (by omega), (hRw6.trans hU).below hB8 (fun k h1 h2 => by omega)⟩
    · by_cases hy0 : y = 0
      · subst hy0
        have hN1 : ¬ 1 < N := fun e => hyn ⟨rfl, e⟩
        first
          | (exfalso; omega)
          | (go_wp2; go_ret; exact ⟨A5, m5, c5, zs5, p5 + 1 - p, rfl, by omega, hr6.more (Nat.le_refl _) hU6.size, by omega, by rw [show p + (p5 + 1 - p) = p5 + 1 by omega]; exact hR6, hRw6⟩)
      · go_wp2
        go_ret
        exact ⟨A5, m5, c5, zs5, p5 + 1 - p, rfl, by omega, hr6.more (Nat.le_refl _) hU6.size, by omega, by rw [show p + (p5 + 1 - p) = p5 + 1 by omega]; exact hR6, hRw6⟩
  by_cases x2 : x = 2
  · subst x2
    go_wp2_with fail
    have R4 := Rowed.new w4
    go_loopw [6, 7] (fun v i wr => ∃ (i' : Nat) (rs : List (List Int)), i = .int .i64 i' ∧ (1 ≤ i' ∧ (i' ≤ K ∨ i' = 1)) ∧ rs.length + 1 = i' ∧ (∀ r ∈ rs, r.length = 2) ∧ Rowed wr w4.heap.size v rs ∧ Rd wr R (p + 1 + q3 + 1 + rs.length) ∧ Upd (fun k => k = R) w wr) (fun _ i _ => K + 1 - (intOf i).toNat)
    case atStart => exact ⟨1, [], rfl, ⟨by omega, .inr rfl⟩, rfl, (fun r hr => by simp at hr), R4, hR4.upd ((Upd.refl (fun _ => False) w4).alloc _) (fun _ e => e.elim), hRw4.alloc _⟩
    case round =>
      clear hR4 R4
      obtain ⟨i', rs, rfl, ⟨hia, hib⟩, hrl, hall, hRo, hRd, hU⟩ := hrel
      have zU := hU.size
      by_cases hlt : i' < K
      · go_wp2_with fail
        refine (pick_any R (p + 1 + q3 + 1 + rs.length) i' _ hRd (by omega)).mono ?_
        rintro e w5 ⟨a, rfl, -, hR5, hU5⟩
        have hRo5 := hRo.keep hU5 (fun j e => by omega)
        have hUw := hU.trans hU5
        have z5 := hU5.size
        obtain ⟨vs, hown, hC, hb1⟩ := hRo5
        clear hRo hRd hU hU5
        go_wp2_with (at_builtin; go_loud (refine wpList_append1 _ rfl (.tmp 46) (.tmp 52) _ rfl w4.heap.size 23 i0 _ 24 Try.underlying45 hi0 hz0 hz1 hz2 rfl _ rs.length _ rfl ((hown.alloc _).alloc _) (w5.heap.size + 1) 1 (.slice (some ⟨w5.heap.size, 0, none⟩) 2 2) rfl (draw_cell_new2 _ _ _ _) rfl (by omega) (by omega) (by simp; omega) ?_); rintro v' w' hown' hg' -)
        have hall' : ∀ r ∈ rs ++ [[a, (i' : Int)]], r.length = 2 := fun r hr => by
          rcases List.mem_append.1 hr with hr | hr
          · exact hall r hr
          · rw [List.mem_singleton.1 hr]; rfl
        have hUg : Upd (fun k => w4.heap.size ≤ k) w5 w' := (((Upd.refl (fun k => w4.heap.size ≤ k) w5).alloc _).alloc _).grown hg' (fun k hk => .inr (own_base hown k hk))
        have hR9 : Rd w' R (p + 1 + q3 + 1 + (rs ++ [[a, (i' : Int)]]).length) := by
          rw [List.length_append]; exact hR5.upd hUg (fun k hk => by omega)
        have hU9 : Upd (fun k => k = R) w w' := hUw.trans' hUg (fun i hi e => by omega)
        have hl9 : (rs ++ [[a, (i' : Int)]]).length + 1 = i' + 1 := by simp; omega
        go_roundw
        case rel => exact ⟨i' + 1, rs ++ [[a, (i' : Int)]], by go_num, ⟨by omega, .inl (by omega)⟩, hl9, hall', Rowed.step hown rfl hC hb1 hown' hg', hR9, hU9⟩
        case measure => simp [intOf]; omega
      · have hF := hRo.few (by omega) (fun r hr => by rw [hall r hr]; omega)
        obtain ⟨A3, c3, rfl, hI4, hl4, hr4⟩ := hF
        go_wp2_with fail
        refine (specOrderOf_any K A3 _ c3 rs wr hI4 hl4 hr4).mono ?_
        rintro e w5 ⟨A5, m5, c5, rfl, r5, hB5⟩
        have hRw5 := hU.below hB5 (fun k h1 h2 => by omega)
        have hR5 := hRd.below hB5 (by omega)
        have hr5 := r5.more (lo' := w.heap.size) zU (Nat.le_refl _)
        obtain ⟨hsm, hml, hm6⟩ := ordL_small K rs
        rw [r5.len] at hml hm6
        generalize ordL (K : Int) rs = zs5 at *
        generalize hp5 : p + 1 + q3 + 1 + rs.length = p5 at *
        have hp5' : p5 ≤ p + 40 := by omega
        obtain ⟨N, hN1', hN2'⟩ : ∃ N : Nat, N ≤ K ∧ K ≤ N := ⟨K, Nat.le_refl _, Nat.le_refl _⟩
        clear r5 hI4 hB5 hRd hU hr4 hl4 hRo
        go_wp2_with fail
        refine (pick_any R p5 3 w5 hR5 (by omega)).mono ?_
        rintro e w6 ⟨y, rfl, hy, hR6, hU6⟩
        have hRw6 := hRw5.trans hU6
        have hz6 := hRw6.size
        have hr6 := hr5.upd hU6 (fun j e => by omega)
        by_cases hyn : y = 0 ∧ 1 < N
        · obtain ⟨rfl, hN1⟩ := hyn
          try have hK1 : (1 : Int) < (K : Int) := by omega
          go_wp2_with fail
          go_loopw [10, 11] (fun v i wr => ∃ (k bt cp : Nat) (ts : List Int), k ≤ N ∧ i = .int .i64 k ∧ v = .slice (some ⟨bt, 0, none⟩) k cp ∧ (k ≤ cp ∧ cp ≤ maxLen) ∧ (bt < wr.heap.size ∧ w6.heap.size ≤ bt) ∧ ts.length = k ∧ (∀ x ∈ ts, (0 : Int) ≤ x ∧ x < k) ∧ (∀ j, j < k → wr.cell? ⟨bt, j, none⟩ = some (.int .i64 (ts[j]?.getD 0))) ∧ Rd wr R (p5 + 1 + k) ∧ Upd (fun k => k = R) w6 wr) (fun _ i _ => N - (intOf i).toNat)
          case atStart => exact ⟨0, w6.heap.size, 0, [], by omega, rfl, rfl, ⟨by omega, by simp [maxLen]⟩, ⟨by simp, by omega⟩, rfl, (fun x hx => by simp at hx), fun j hj => by omega, hR6.upd ((Upd.refl (fun _ => False) w6).alloc _) (fun _ e => e.elim), (Upd.refl _ _).alloc _⟩
          case round =>
            obtain ⟨k, bt, cp, ts, hk, rfl, rfl, ⟨hkc, hcm⟩, ⟨hbt, hbt6⟩, htl, htb, htc, hRd, hU⟩ := hrel
            have zU := hU.size
            by_cases hlt : k < N
            · go_wp2_with fail
              refine (pick_any R (p5 + 1 + k) (k + 1) _ hRd (by omega)).mono ?_
              rintro e w7 ⟨y, rfl, hy, hR7, hU7⟩
              have hy2 := hy.1 (by omega)
              obtain ⟨h, rfl⟩ := Int.eq_ofNat_of_zero_le hy2.1
              have hhk : h ≤ k := by omega
              have htc7 : ∀ j, j < k → w7.cell? ⟨bt, j, none⟩ = some (.int .i64 (ts[j]?.getD 0)) := fun j hj => hU7.cell (htc j hj) (by simp; omega)
              have hUw7 := hU.trans hU7
              have z7 := hU7.size
              clear hy hy2 htc hU hU7 hRd
              go_wp2_with fail
              obtain ⟨AD, hAD⟩ : ∃ AD, (if cp = h then some (⟨bt, 0, none⟩ : Addr) else some ⟨bt, h, none⟩) = some AD := by split <;> exact ⟨_, rfl⟩
              have hadd : ∀ j, j < (ts.drop h).length → AD.add j = ⟨bt, h + j, none⟩ := fun j hj => by
                have hne : ¬ cp = h := fun e => by simp at hj; omega
                rw [if_neg hne] at hAD
                cases hAD
                exact addr_add ..
              have hadd0 : ∀ j, j < (ts.take h).length → (⟨bt, 0, none⟩ : Addr).add j = ⟨bt, 0 + j, none⟩ := fun j hj => addr_add ..
              have htk : (ts.take h).length = h := by simp; omega
              have htd : (ts.drop h).length = k - h := by simp; omega
              have hgt : ∀ j, j < (ts.take h).length → (ts.take h)[j]?.getD 0 = ts[0 + j]?.getD 0 := fun j hj => by rw [Nat.zero_add, List.getElem?_take_of_lt (by omega)]
              have hgd : ∀ j, j < (ts.drop h).length → (ts.drop h)[j]?.getD 0 = ts[h + j]?.getD 0 := fun j hj => by rw [List.getElem?_drop]
              have hone : ∀ (zs : List Int), ∀ u ∈ zs.map (Value.int .i64), u.oneCell' = true := fun zs u hu => by
                obtain ⟨z, _, rfl⟩ := List.mem_map.1 hu; rfl
              have hbt7 : bt < w7.heap.size := by omega
              have hkN : k < 6 := by omega
              have hhc : h ≤ cp := by omega
              have hhc' : (h : Int) ≤ (cp : Int) := by omega
              have hhk' : (h : Int) ≤ (k : Int) := by omega
              go_region_law (first
                | (refine step_append_any _ rfl (.tmp 94) (.tmp 97) _ (by rfl) w7.heap.size 3 i1 _ 8 Try.underlying23 hi1 hzi1 hsi1 hbi1 rfl (.slice (some ⟨_, 0, none⟩) 0 0) 0 [] (by rfl) (by simp) (by first | exact own_new2 _ _ _ | exact own_sooner (own_new _ _) (by first | (simp; done) | (simp; omega)) | exact own_sooner ((own_new _ _).alloc _) (by first | (simp; done) | (simp; omega))) ⟨bt, 0, none⟩ h cp _ (by rfl) (by rw [List.length_map]; exact htk) (news_at htc7 (by repeat' (first | exact Upd.refl _ _ | assumption | refine Upd.alloc ?_ _ | refine Upd.drew ?_)) hbt7 hadd0 hgt (by omega)) (hone _) (by simp [maxLen]; omega) (by omega) (by first | (simp; done) | (simp; omega)) ?_; intro g1 cap1 x1 hown1 hgrow1 hg1 hl1 hc1 hm1; rw [Nat.zero_add] at hown1; have hU1 : Upd (fun k => w7.heap.size ≤ k) w7 x1 := Upd.grown (by repeat' (first | exact Upd.refl _ _ | assumption | refine Upd.alloc ?_ _ | refine Upd.drew ?_)) hgrow1 (fun q hq => by simp [Value.ownBlock] at hq; omega))
                | (refine step_append_any _ rfl (.tmp 98) (.tmp 100) _ (by rfl) w7.heap.size 3 i1 _ 8 Try.underlying23 hi1 hzi1 hsi1 hbi1 rfl (.slice (some ⟨g1, 0, none⟩) h cap1) h _ (by rfl) (by simp) (by first | exact hown1 | exact hown1.alloc _) ⟨_, 0, none⟩ 1 1 [.int .i64 (k : Int)] (by rfl) rfl (by first | exact news_one (cell_new _ _ _) | exact news_one ((hgrow1.cell_far _ (by first | (simp; done) | (simp; omega)) (by simp [Value.ownBlock])).trans (draw_cell_new2 _ _ _ _)) | exact news_one ((hgrow1.cell_far _ (by first | (simp; done) | (simp; omega)) (by simp [Value.ownBlock])).trans (cell_new _ _ _)) | exact news_one ((hgrow1.cell_far _ (by first | (simp; done) | (simp; omega)) (by simp [Value.ownBlock])).trans (cell_new_alloc _ _ _ _)) | exact news_one ((hgrow1.cell_far _ (by first | (simp; done) | (simp; omega)) (by simp [Value.ownBlock])).trans (cell_new _ _ _))) (by simp [Value.oneCell']) (by simp [maxLen]; omega) (by omega) (by have := hU1.size; simp; omega) ?_; intro g2 cap2 x2 hown2 hgrow2 hg2 hl2 hc2 hm2; have hU2 : Upd (fun k => w7.heap.size ≤ k) w7 x2 := Upd.grown (by repeat' (first | exact Upd.refl _ _ | assumption | refine Upd.alloc ?_ _ | refine Upd.drew ?_)) hgrow2 (fun q hq => by simp [Value.ownBlock] at hq; omega))
                | (refine step_append_any _ rfl (.tmp 101) (.tmp 104) _ (by rfl) w7.heap.size 3 i1 _ 8 Try.underlying23 hi1 hzi1 hsi1 hbi1 rfl (.slice (some ⟨g2, 0, none⟩) (h + 1) cap2) (h + 1) _ (by rfl) (by simp) hown2 AD (k - h) _ _ (by simp [Act.eval]; rfl) (by rw [List.length_map]; exact htd) (news_at htc7 hU2 hbt7 hadd hgd (by omega)) (hone _) (by simp [maxLen]; omega) (by omega) (by have := hU2.size; omega) ?_; intro g3 cap3 x3 hown3 hgrow3 hg3 hl3 hc3 hm3; have hU3 : Upd (fun k => w7.heap.size ≤ k) w7 x3 := Upd.grown hU2 hgrow3 (fun q hq => by simp [Value.ownBlock] at hq; omega)))
              all_goals
                have e3 : ([] ++ (ts.take h).map (Value.int .i64) ++ [Value.int .i64 (k : Int)]) ++ (ts.drop h).map (Value.int .i64) = (ts.take h ++ [(k : Int)] ++ ts.drop h).map (Value.int .i64) := by simp
                rw [e3] at hown3
                have hn3 : h + 1 + (k - h) = k + 1 := by omega
                rw [hn3] at hown3 hc3
                obtain ⟨hl3', hc3'⟩ := own_cells hown3
                simp only [hn3]
                have htb' : ∀ x ∈ ts.take h ++ [(k : Int)] ++ ts.drop h, (0 : Int) ≤ x ∧ x < ((k + 1 : Nat) : Int) := fun x hx => by
                  rcases List.mem_append.1 hx with hx | hx
                  · rcases List.mem_append.1 hx with hx | hx
                    · have := htb x (List.mem_of_mem_take hx); omega
                    · have := List.mem_singleton.1 hx; omega
                  · have := htb x (List.mem_of_mem_drop hx); omega
                have hR8 : Rd x3 R (p5 + 1 + (k + 1)) := hR7.upd hU3 (fun q hq => by omega)
                have hU8 : Upd (fun k => k = R) w6 x3 := hUw7.trans' hU3 (fun i hi e => by omega)
                go_wp2
                go_roundw
                case rel => exact ⟨k + 1, g3, cap3, ts.take h ++ [(k : Int)] ++ ts.drop h, by omega, by go_num, rfl, ⟨hc3, hm3⟩, ⟨hl3, by omega⟩, hl3', htb', hc3', hR8, hU8⟩
                case measure => simp [intOf]; omega
            · obtain rfl : k = N := by omega
              go_wp2_with fail
              refine (renumbered_any A5 (some ⟨bt, 0, none⟩) m5 c5 k cp zs5 ts wr ((hr6.upd hU (fun j e => by omega)).ints (by have := hU6.size; omega)) ⟨htl, fun _ => ⟨bt, 0, rfl, hbt, fun j hj => by rw [Nat.zero_add]; exact htc j hj⟩⟩ hm6 (by omega) hsm (fun j hj => by
                have hjl : j < ts.length := by omega
                have := htb ts[j] (List.getElem_mem hjl)
                rw [List.getElem?_eq_getElem hjl, Option.getD_some]
                omega)).mono ?_
              rintro e w8 ⟨os, rfl, hos, hArr, hB8⟩
              go_wp2
              go_ret
              exact ⟨_, m5, m5, os, p5 + 1 + k - p, rfl, by omega, Row.of hArr hos (by omega) hArr.lt, by omega, by rw [show p + (p5 + 1 + k - p) = p5 + 1 + k by omega]; exact hRd.below hB8 (by omega), (hRw6.trans hU).below hB8 (fun k h1 h2 => by omega)⟩
        · by_cases hy0 : y = 0
          · subst hy0
            have hN1 : ¬ 1 < N := fun e => hyn ⟨rfl, e⟩
            first
              | (exfalso; omega)
              | (go_wp2; go_ret; exact ⟨A5, m5, c5, zs5, p5 + 1 - p, rfl, by omega, hr6.more (Nat.le_refl _) hU6.size, by omega, by rw [show p + (p5 + 1 - p) = p5 + 1 by omega]; exact hR6, hRw6⟩)
          · go_wp2
            go_ret
            exact ⟨A5, m5, c5, zs5, p5 + 1 - p, rfl, by omega, hr6.more (Nat.le_refl _) hU6.size, by omega, by rw [show p + (p5 + 1 - p) = p5 + 1 by omega]; exact hR6, hRw6⟩
  by_cases x3 : x = 3
  · subst x3
    go_wp2_with fail
    have hL := litRows w4 [(0, 1), (0, 2), (0, 3), (1, 4), (2, 4), (3, 4)]
    have hup := litW_upd w4 [(0, 1), (0, 2), (0, 3), (1, 4), (2, 4), (3, 4)]
    refine (specOrderOf_any 5 _ 6 6 _ (litW w4 [(0, 1), (0, 2), (0, 3), (1, 4), (2, 4), (3, 4)]) hL (by simp) (by simp)).mono ?_
    rintro e w5 ⟨A5, m5, c5, rfl, r5, hB5⟩
    have hzL := hup.size
    have hRw5 := (hRw4.trans (hup.mono fun _ _ e => e.elim)).below hB5 (fun k h1 h2 => by omega)
    have hR5 := (hR4.upd hup (fun _ e => e.elim)).below hB5 (by omega)
    have hr5 := r5.more (lo' := w.heap.size) (by omega) (Nat.le_refl _)
    have hos := ordL_small 5 (([(0, 1), (0, 2), (0, 3), (1, 4), (2, 4), (3, 4)] : List (Int × Int)).map fun r => [r.1, r.2])
    obtain ⟨zs5, hzs5⟩ : ∃ zs5, ordL 5 (([(0, 1), (0, 2), (0, 3), (1, 4), (2, 4), (3, 4)] : List (Int × Int)).map fun r => [r.1, r.2]) = zs5 := ⟨_, rfl⟩
    rw [hzs5] at hos hr5
    obtain ⟨hsm, hml, hm6⟩ := hos
    rw [hr5.len] at hml hm6
    have hob : ∃ bb : Bool, ordOk 5 (([(0, 1), (0, 2), (0, 3), (1, 4), (2, 4), (3, 4)] : List (Int × Int)).map fun r => [r.1, r.2]) = bb := ⟨_, rfl⟩
    obtain ⟨bb, hbb⟩ := hob
    rw [hbb]
    generalize hp5 : p + 1 + q3 + 1 = p5 at *
    have hp5' : p5 ≤ p + 40 := by omega
    obtain ⟨N, hN1', hN2'⟩ : ∃ N : Nat, N ≤ 5 ∧ 5 ≤ N := ⟨5, Nat.le_refl _, Nat.le_refl _⟩
    clear r5 hL hB5 hR4 hRw4 hup hzL
    go_wp2_with fail
    refine (pick_any R p5 3 w5 hR5 (by omega)).mono ?_
    rintro e w6 ⟨y, rfl, hy, hR6, hU6⟩
    have hRw6 := hRw5.trans hU6
    have hz6 := hRw6.size
    have hr6 := hr5.upd hU6 (fun j e => by omega)
    by_cases hyn : y = 0 ∧ 1 < N
    · obtain ⟨rfl, hN1⟩ := hyn
      try have hK1 : (1 : Int) < (K : Int) := by omega
      go_wp2_with fail
      go_loopw [10, 11] (fun v i wr => ∃ (k bt cp : Nat) (ts : List Int), k ≤ N ∧ i = .int .i64 k ∧ v = .slice (some ⟨bt, 0, none⟩) k cp ∧ (k ≤ cp ∧ cp ≤ maxLen) ∧ (bt < wr.heap.size ∧ w6.heap.size ≤ bt) ∧ ts.length = k ∧ (∀ x ∈ ts, (0 : Int) ≤ x ∧ x < k) ∧ (∀ j, j < k → wr.cell? ⟨bt, j, none⟩ = some (.int .i64 (ts[j]?.getD 0))) ∧ Rd wr R (p5 + 1 + k) ∧ Upd (fun k => k = R) w6 wr) (fun _ i _ => N - (intOf i).toNat)
      case atStart => exact ⟨0, w6.heap.size, 0, [], by omega, rfl, rfl, ⟨by omega, by simp [maxLen]⟩, ⟨by simp, by omega⟩, rfl, (fun x hx => by simp at hx), fun j hj => by omega, hR6.upd ((Upd.refl (fun _ => False) w6).alloc _) (fun _ e => e.elim), (Upd.refl _ _).alloc _⟩
      case round =>
        obtain ⟨k, bt, cp, ts, hk, rfl, rfl, ⟨hkc, hcm⟩, ⟨hbt, hbt6⟩, htl, htb, htc, hRd, hU⟩ := hrel
        have zU := hU.size
        by_cases hlt : k < N
        · go_wp2_with fail
          refine (pick_any R (p5 + 1 + k) (k + 1) _ hRd (by omega)).mono ?_
          rintro e w7 ⟨y, rfl, hy, hR7, hU7⟩
          have hy2 := hy.1 (by omega)
          obtain ⟨h, rfl⟩ := Int.eq_ofNat_of_zero_le hy2.1
          have hhk : h ≤ k := by omega
          have htc7 : ∀ j, j < k → w7.cell? ⟨bt, j, none⟩ = some (.int .i64 (ts[j]?.getD 0)) := fun j hj => hU7.cell (htc j hj) (by simp; omega)
          have hUw7 := hU.trans hU7
          have z7 := hU7.size
          clear hy hy2 htc hU hU7 hRd
          go_wp2_with fail
          obtain ⟨AD, hAD⟩ : ∃ AD, (if cp = h then some (⟨bt, 0, none⟩ : Addr) else some ⟨bt, h, none⟩) = some AD := by split <;> exact ⟨_, rfl⟩
          have hadd : ∀ j, j < (ts.drop h).length → AD.add j = ⟨bt, h + j, none⟩ := fun j hj => by
            have hne : ¬ cp = h := fun e => by simp at hj; omega
            rw [if_neg hne] at hAD
            cases hAD
            exact addr_add ..
          have hadd0 : ∀ j, j < (ts.take h).length → (⟨bt, 0, none⟩ : Addr).add j = ⟨bt, 0 + j, none⟩ := fun j hj => addr_add ..
          have htk : (ts.take h).length = h := by simp; omega
          have htd : (ts.drop h).length = k - h := by simp; omega
          have hgt : ∀ j, j < (ts.take h).length → (ts.take h)[j]?.getD 0 = ts[0 + j]?.getD 0 := fun j hj => by rw [Nat.zero_add, List.getElem?_take_of_lt (by omega)]
          have hgd : ∀ j, j < (ts.drop h).length → (ts.drop h)[j]?.getD 0 = ts[h + j]?.getD 0 := fun j hj => by rw [List.getElem?_drop]
          have hone : ∀ (zs : List Int), ∀ u ∈ zs.map (Value.int .i64), u.oneCell' = true := fun zs u hu => by
            obtain ⟨z, _, rfl⟩ := List.mem_map.1 hu; rfl
          have hbt7 : bt < w7.heap.size := by omega
          have hkN : k < 6 := by omega
          have hhc : h ≤ cp := by omega
          have hhc' : (h : Int) ≤ (cp : Int) := by omega
          have hhk' : (h : Int) ≤ (k : Int) := by omega
          go_region_law (first
            | (refine step_append_any _ rfl (.tmp 94) (.tmp 97) _ (by rfl) w7.heap.size 3 i1 _ 8 Try.underlying23 hi1 hzi1 hsi1 hbi1 rfl (.slice (some ⟨_, 0, none⟩) 0 0) 0 [] (by rfl) (by simp) (by first | exact own_new2 _ _ _ | exact own_sooner (own_new _ _) (by first | (simp; done) | (simp; omega)) | exact own_sooner ((own_new _ _).alloc _) (by first | (simp; done) | (simp; omega))) ⟨bt, 0, none⟩ h cp _ (by rfl) (by rw [List.length_map]; exact htk) (news_at htc7 (by repeat' (first | exact Upd.refl _ _ | assumption | refine Upd.alloc ?_ _ | refine Upd.drew ?_)) hbt7 hadd0 hgt (by omega)) (hone _) (by simp [maxLen]; omega) (by omega) (by first | (simp; done) | (simp; omega)) ?_; intro g1 cap1 x1 hown1 hgrow1 hg1 hl1 hc1 hm1; rw [Nat.zero_add] at hown1; have hU1 : Upd (fun k => w7.heap.size ≤ k) w7 x1 := Upd.grown (by repeat' (first | exact Upd.refl _ _ | assumption | refine Upd.alloc ?_ _ | refine Upd.drew ?_)) hgrow1 (fun q hq => by simp [Value.ownBlock] at hq; omega))
            | (refine step_append_any _ rfl (.tmp 98) (.tmp 100) _ (by rfl) w7.heap.size 3 i1 _ 8 Try.underlying23 hi1 hzi1 hsi1 hbi1 rfl (.slice (some ⟨g1, 0, none⟩) h cap1) h _ (by rfl) (by simp) (by first | exact hown1 | exact hown1.alloc _) ⟨_, 0, none⟩ 1 1 [.int .i64 (k : Int)] (by rfl) rfl (by first | exact news_one (cell_new _ _ _) | exact news_one ((hgrow1.cell_far _ (by first | (simp; done) | (simp; omega)) (by simp [Value.ownBlock])).trans (draw_cell_new2 _ _ _ _)) | exact news_one ((hgrow1.cell_far _ (by first | (simp; done) | (simp; omega)) (by simp [Value.ownBlock])).trans (cell_new _ _ _)) | exact news_one ((hgrow1.cell_far _ (by first | (simp; done) | (simp; omega)) (by simp [Value.ownBlock])).trans (cell_new_alloc _ _ _ _)) | exact news_one ((hgrow1.cell_far _ (by first | (simp; done) | (simp; omega)) (by simp [Value.ownBlock])).trans (cell_new _ _ _))) (by simp [Value.oneCell']) (by simp [maxLen]; omega) (by omega) (by have := hU1.size; simp; omega) ?_; intro g2 cap2 x2 hown2 hgrow2 hg2 hl2 hc2 hm2; have hU2 : Upd (fun k => w7.heap.size ≤ k) w7 x2 := Upd.grown (by repeat' (first | exact Upd.refl _ _ | assumption | refine Upd.alloc ?_ _ | refine Upd.drew ?_)) hgrow2 (fun q hq => by simp [Value.ownBlock] at hq; omega))
            | (refine step_append_any _ rfl (.tmp 101) (.tmp 104) _ (by rfl) w7.heap.size 3 i1 _ 8 Try.underlying23 hi1 hzi1 hsi1 hbi1 rfl (.slice (some ⟨g2, 0, none⟩) (h + 1) cap2) (h + 1) _ (by rfl) (by simp) hown2 AD (k - h) _ _ (by simp [Act.eval]; rfl) (by rw [List.length_map]; exact htd) (news_at htc7 hU2 hbt7 hadd hgd (by omega)) (hone _) (by simp [maxLen]; omega) (by omega) (by have := hU2.size; omega) ?_; intro g3 cap3 x3 hown3 hgrow3 hg3 hl3 hc3 hm3; have hU3 : Upd (fun k => w7.heap.size ≤ k) w7 x3 := Upd.grown hU2 hgrow3 (fun q hq => by simp [Value.ownBlock] at hq; omega)))
          all_goals
            have e3 : ([] ++ (ts.take h).map (Value.int .i64) ++ [Value.int .i64 (k : Int)]) ++ (ts.drop h).map (Value.int .i64) = (ts.take h ++ [(k : Int)] ++ ts.drop h).map (Value.int .i64) := by simp
            rw [e3] at hown3
            have hn3 : h + 1 + (k - h) = k + 1 := by omega
            rw [hn3] at hown3 hc3
            obtain ⟨hl3', hc3'⟩ := own_cells hown3
            simp only [hn3]
            have htb' : ∀ x ∈ ts.take h ++ [(k : Int)] ++ ts.drop h, (0 : Int) ≤ x ∧ x < ((k + 1 : Nat) : Int) := fun x hx => by
              rcases List.mem_append.1 hx with hx | hx
              · rcases List.mem_append.1 hx with hx | hx
                · have := htb x (List.mem_of_mem_take hx); omega
                · have := List.mem_singleton.1 hx; omega
              · have := htb x (List.mem_of_mem_drop hx); omega
            have hR8 : Rd x3 R (p5 + 1 + (k + 1)) := hR7.upd hU3 (fun q hq => by omega)
            have hU8 : Upd (fun k => k = R) w6 x3 := hUw7.trans' hU3 (fun i hi e => by omega)
            go_wp2
            go_roundw
            case rel => exact ⟨k + 1, g3, cap3, ts.take h ++ [(k : Int)] ++ ts.drop h, by omega, by go_num, rfl, ⟨hc3, hm3⟩, ⟨hl3, by omega⟩, hl3', htb', hc3', hR8, hU8⟩
            case measure => simp [intOf]; omega
        · obtain rfl : k = N := by omega
          go_wp2_with fail
          refine (renumbered_any A5 (some ⟨bt, 0, none⟩) m5 c5 k cp zs5 ts wr ((hr6.upd hU (fun j e => by omega)).ints (by have := hU6.size; omega)) ⟨htl, fun _ => ⟨bt, 0, rfl, hbt, fun j hj => by rw [Nat.zero_add]; exact htc j hj⟩⟩ hm6 (by omega) hsm (fun j hj => by
            have hjl : j < ts.length := by omega
            have := htb ts[j] (List.getElem_mem hjl)
            rw [List.getElem?_eq_getElem hjl, Option.getD_some]
            omega)).mono ?_
          rintro e w8 ⟨os, rfl, hos, hArr, hB8⟩
          go_wp2
          go_ret
          exact ⟨_, m5, m5, os, p5 + 1 + k - p, rfl, by omega, Row.of hArr hos (by omega) hArr.lt, by omega, by rw [show p + (p5 + 1 + k - p) = p5 + 1 + k by omega]; exact hRd.below hB8 (by omega), (hRw6.trans hU).below hB8 (fun k h1 h2 => by omega)⟩
    · by_cases hy0 : y = 0
      · subst hy0
        have hN1 : ¬ 1 < N := fun e => hyn ⟨rfl, e⟩
        first
          | (exfalso; omega)
          | (go_wp2; go_ret; exact ⟨A5, m5, c5, zs5, p5 + 1 - p, rfl, by omega, hr6.more (Nat.le_refl _) hU6.size, by omega, by rw [show p + (p5 + 1 - p) = p5 + 1 by omega]; exact hR6, hRw6⟩)
      · go_wp2
        go_ret
        exact ⟨A5, m5, c5, zs5, p5 + 1 - p, rfl, by omega, hr6.more (Nat.le_refl _) hU6.size, by omega, by rw [show p + (p5 + 1 - p) = p5 + 1 by omega]; exact hR6, hRw6⟩
  obtain ⟨A3, c3, rfl, hI4, hl4, hr4⟩ := hF4
  go_wp2_with fail
  refine (specOrderOf_any K A3 _ c3 rs3 w4 hI4 hl4 hr4).mono ?_
  rintro e w5 ⟨A5, m5, c5, rfl, r5, hB5⟩
  have hRw5 := hRw4.below hB5 (fun k h1 h2 => by omega)
  have hR5 := hR4.below hB5 (by omega)
  have hr5 := r5.more (lo' := w.heap.size) hz4' (Nat.le_refl _)
  obtain ⟨hsm, hml, hm6⟩ := ordL_small K rs3
  rw [r5.len] at hml hm6
  generalize ordL (K : Int) rs3 = zs5 at *
  generalize hp5 : p + 1 + q3 + 1 = p5 at *
  have hp5' : p5 ≤ p + 40 := by omega
  obtain ⟨N, hN1', hN2'⟩ : ∃ N : Nat, N ≤ K ∧ K ≤ N := ⟨K, Nat.le_refl _, Nat.le_refl _⟩
  clear r5 hI4 hB5 hR4 hRw4 hr4 hl4
  go_wp2_with fail
  refine (pick_any R p5 3 w5 hR5 (by omega)).mono ?_
  rintro e w6 ⟨y, rfl, hy, hR6, hU6⟩
  have hRw6 := hRw5.trans hU6
  have hz6 := hRw6.size
  have hr6 := hr5.upd hU6 (fun j e => by omega)
  by_cases hyn : y = 0 ∧ 1 < N
  · obtain ⟨rfl, hN1⟩ := hyn
    try have hK1 : (1 : Int) < (K : Int) := by omega
    go_wp2_with fail
    go_loopw [10, 11] (fun v i wr => ∃ (k bt cp : Nat) (ts : List Int), k ≤ N ∧ i = .int .i64 k ∧ v = .slice (some ⟨bt, 0, none⟩) k cp ∧ (k ≤ cp ∧ cp ≤ maxLen) ∧ (bt < wr.heap.size ∧ w6.heap.size ≤ bt) ∧ ts.length = k ∧ (∀ x ∈ ts, (0 : Int) ≤ x ∧ x < k) ∧ (∀ j, j < k → wr.cell? ⟨bt, j, none⟩ = some (.int .i64 (ts[j]?.getD 0))) ∧ Rd wr R (p5 + 1 + k) ∧ Upd (fun k => k = R) w6 wr) (fun _ i _ => N - (intOf i).toNat)
    case atStart => exact ⟨0, w6.heap.size, 0, [], by omega, rfl, rfl, ⟨by omega, by simp [maxLen]⟩, ⟨by simp, by omega⟩, rfl, (fun x hx => by simp at hx), fun j hj => by omega, hR6.upd ((Upd.refl (fun _ => False) w6).alloc _) (fun _ e => e.elim), (Upd.refl _ _).alloc _⟩
    case round =>
      obtain ⟨k, bt, cp, ts, hk, rfl, rfl, ⟨hkc, hcm⟩, ⟨hbt, hbt6⟩, htl, htb, htc, hRd, hU⟩ := hrel
      have zU := hU.size
      by_cases hlt : k < N
      · go_wp2_with fail
        refine (pick_any R (p5 + 1 + k) (k + 1) _ hRd (by omega)).mono ?_
        rintro e w7 ⟨y, rfl, hy, hR7, hU7⟩
        have hy2 := hy.1 (by omega)
        obtain ⟨h, rfl⟩ := Int.eq_ofNat_of_zero_le hy2.1
        have hhk : h ≤ k := by omega
        have htc7 : ∀ j, j < k → w7.cell? ⟨bt, j, none⟩ = some (.int .i64 (ts[j]?.getD 0)) := fun j hj => hU7.cell (htc j hj) (by simp; omega)
        have hUw7 := hU.trans hU7
        have z7 := hU7.size
        clear hy hy2 htc hU hU7 hRd
        go_wp2_with fail
        obtain ⟨AD, hAD⟩ : ∃ AD, (if cp = h then some (⟨bt, 0, none⟩ : Addr) else some ⟨bt, h, none⟩) = some AD := by split <;> exact ⟨_, rfl⟩
        have hadd : ∀ j, j < (ts.drop h).length → AD.add j = ⟨bt, h + j, none⟩ := fun j hj => by
          have hne : ¬ cp = h := fun e => by simp at hj; omega
          rw [if_neg hne] at hAD
          cases hAD
          exact addr_add ..
        have hadd0 : ∀ j, j < (ts.take h).length → (⟨bt, 0, none⟩ : Addr).add j = ⟨bt, 0 + j, none⟩ := fun j hj => addr_add ..
        have htk : (ts.take h).length = h := by simp; omega
        have htd : (ts.drop h).length = k - h := by simp; omega
        have hgt : ∀ j, j < (ts.take h).length → (ts.take h)[j]?.getD 0 = ts[0 + j]?.getD 0 := fun j hj => by rw [Nat.zero_add, List.getElem?_take_of_lt (by omega)]
        have hgd : ∀ j, j < (ts.drop h).length → (ts.drop h)[j]?.getD 0 = ts[h + j]?.getD 0 := fun j hj => by rw [List.getElem?_drop]
        have hone : ∀ (zs : List Int), ∀ u ∈ zs.map (Value.int .i64), u.oneCell' = true := fun zs u hu => by
          obtain ⟨z, _, rfl⟩ := List.mem_map.1 hu; rfl
        have hbt7 : bt < w7.heap.size := by omega
        have hkN : k < 6 := by omega
        have hhc : h ≤ cp := by omega
        have hhc' : (h : Int) ≤ (cp : Int) := by omega
        have hhk' : (h : Int) ≤ (k : Int) := by omega
        go_region_law (first
          | (refine step_append_any _ rfl (.tmp 94) (.tmp 97) _ (by rfl) w7.heap.size 3 i1 _ 8 Try.underlying23 hi1 hzi1 hsi1 hbi1 rfl (.slice (some ⟨_, 0, none⟩) 0 0) 0 [] (by rfl) (by simp) (by first | exact own_new2 _ _ _ | exact own_sooner (own_new _ _) (by first | (simp; done) | (simp; omega)) | exact own_sooner ((own_new _ _).alloc _) (by first | (simp; done) | (simp; omega))) ⟨bt, 0, none⟩ h cp _ (by rfl) (by rw [List.length_map]; exact htk) (news_at htc7 (by repeat' (first | exact Upd.refl _ _ | assumption | refine Upd.alloc ?_ _ | refine Upd.drew ?_)) hbt7 hadd0 hgt (by omega)) (hone _) (by simp [maxLen]; omega) (by omega) (by first | (simp; done) | (simp; omega)) ?_; intro g1 cap1 x1 hown1 hgrow1 hg1 hl1 hc1 hm1; rw [Nat.zero_add] at hown1; have hU1 : Upd (fun k => w7.heap.size ≤ k) w7 x1 := Upd.grown (by repeat' (first | exact Upd.refl _ _ | assumption | refine Upd.alloc ?_ _ | refine Upd.drew ?_)) hgrow1 (fun q hq => by simp [Value.ownBlock] at hq; omega))
          | (refine step_append_any _ rfl (.tmp 98) (.tmp 100) _ (by rfl) w7.heap.size 3 i1 _ 8 Try.underlying23 hi1 hzi1 hsi1 hbi1 rfl (.slice (some ⟨g1, 0, none⟩) h cap1) h _ (by rfl) (by simp) (by first | exact hown1 | exact hown1.alloc _) ⟨_, 0, none⟩ 1 1 [.int .i64 (k : Int)] (by rfl) rfl (by first | exact news_one (cell_new _ _ _) | exact news_one ((hgrow1.cell_far _ (by first | (simp; done) | (simp; omega)) (by simp [Value.ownBlock])).trans (draw_cell_new2 _ _ _ _)) | exact news_one ((hgrow1.cell_far _ (by first | (simp; done) | (simp; omega)) (by simp [Value.ownBlock])).trans (cell_new _ _ _)) | exact news_one ((hgrow1.cell_far _ (by first | (simp; done) | (simp; omega)) (by simp [Value.ownBlock])).trans (cell_new_alloc _ _ _ _)) | exact news_one ((hgrow1.cell_far _ (by first | (simp; done) | (simp; omega)) (by simp [Value.ownBlock])).trans (cell_new _ _ _))) (by simp [Value.oneCell']) (by simp [maxLen]; omega) (by omega) (by have := hU1.size; simp; omega) ?_; intro g2 cap2 x2 hown2 hgrow2 hg2 hl2 hc2 hm2; have hU2 : Upd (fun k => w7.heap.size ≤ k) w7 x2 := Upd.grown (by repeat' (first | exact Upd.refl _ _ | assumption | refine Upd.alloc ?_ _ | refine Upd.drew ?_)) hgrow2 (fun q hq => by simp [Value.ownBlock] at hq; omega))
          | (refine step_append_any _ rfl (.tmp 101) (.tmp 104) _ (by rfl) w7.heap.size 3 i1 _ 8 Try.underlying23 hi1 hzi1 hsi1 hbi1 rfl (.slice (some ⟨g2, 0, none⟩) (h + 1) cap2) (h + 1) _ (by rfl) (by simp) hown2 AD (k - h) _ _ (by simp [Act.eval]; rfl) (by rw [List.length_map]; exact htd) (news_at htc7 hU2 hbt7 hadd hgd (by omega)) (hone _) (by simp [maxLen]; omega) (by omega) (by have := hU2.size; omega) ?_; intro g3 cap3 x3 hown3 hgrow3 hg3 hl3 hc3 hm3; have hU3 : Upd (fun k => w7.heap.size ≤ k) w7 x3 := Upd.grown hU2 hgrow3 (fun q hq => by simp [Value.ownBlock] at hq; omega)))
        all_goals
          have e3 : ([] ++ (ts.take h).map (Value.int .i64) ++ [Value.int .i64 (k : Int)]) ++ (ts.drop h).map (Value.int .i64) = (ts.take h ++ [(k : Int)] ++ ts.drop h).map (Value.int .i64) := by simp
          rw [e3] at hown3
          have hn3 : h + 1 + (k - h) = k + 1 := by omega
          rw [hn3] at hown3 hc3
          obtain ⟨hl3', hc3'⟩ := own_cells hown3
          simp only [hn3]
          have htb' : ∀ x ∈ ts.take h ++ [(k : Int)] ++ ts.drop h, (0 : Int) ≤ x ∧ x < ((k + 1 : Nat) : Int) := fun x hx => by
            rcases List.mem_append.1 hx with hx | hx
            · rcases List.mem_append.1 hx with hx | hx
              · have := htb x (List.mem_of_mem_take hx); omega
              · have := List.mem_singleton.1 hx; omega
            · have := htb x (List.mem_of_mem_drop hx); omega
          have hR8 : Rd x3 R (p5 + 1 + (k + 1)) := hR7.upd hU3 (fun q hq => by omega)
          have hU8 : Upd (fun k => k = R) w6 x3 := hUw7.trans' hU3 (fun i hi e => by omega)
          go_wp2
          go_roundw
          case rel => exact ⟨k + 1, g3, cap3, ts.take h ++ [(k : Int)] ++ ts.drop h, by omega, by go_num, rfl, ⟨hc3, hm3⟩, ⟨hl3, by omega⟩, hl3', htb', hc3', hR8, hU8⟩
          case measure => simp [intOf]; omega
      · obtain rfl : k = N := by omega
        go_wp2_with fail
        refine (renumbered_any A5 (some ⟨bt, 0, none⟩) m5 c5 k cp zs5 ts wr ((hr6.upd hU (fun j e => by omega)).ints (by have := hU6.size; omega)) ⟨htl, fun _ => ⟨bt, 0, rfl, hbt, fun j hj => by rw [Nat.zero_add]; exact htc j hj⟩⟩ hm6 (by omega) hsm (fun j hj => by
          have hjl : j < ts.length := by omega
          have := htb ts[j] (List.getElem_mem hjl)
          rw [List.getElem?_eq_getElem hjl, Option.getD_some]
          omega)).mono ?_
        rintro e w8 ⟨os, rfl, hos, hArr, hB8⟩
        go_wp2
        go_ret
        exact ⟨_, m5, m5, os, p5 + 1 + k - p, rfl, by omega, Row.of hArr hos (by omega) hArr.lt, by omega, by rw [show p + (p5 + 1 + k - p) = p5 + 1 + k by omega]; exact hRd.below hB8 (by omega), (hRw6.trans hU).below hB8 (fun k h1 h2 => by omega)⟩
  · by_cases hy0 : y = 0
    · subst hy0
      have hN1 : ¬ 1 < N := fun e => hyn ⟨rfl, e⟩
      first
        | (exfalso; omega)
        | (go_wp2; go_ret; exact ⟨A5, m5, c5, zs5, p5 + 1 - p, rfl, by omega, hr6.more (Nat.le_refl _) hU6.size, by omega, by rw [show p + (p5 + 1 - p) = p5 + 1 by omega]; exact hR6, hRw6⟩)
    · go_wp2
      go_ret
      exact ⟨A5, m5, c5, zs5, p5 + 1 - p, rfl, by omega, hr6.more (Nat.le_refl _) hU6.size, by omega, by rw [show p + (p5 + 1 - p) = p5 + 1 by omega]; exact hR6, hRw6⟩
end Go.Proofs.Ythjmedbjdjkilaa

/- A list that is drawn, an order most often. -/
namespace Go.Proofs.Ythjmedbjdjkilaa
open Go.RowKit Go.Shelf

set_option maxRecDepth 100000 in
set_option maxHeartbeats 4000000 in
theorem someOrder_any (R p : Nat) (w : World) (h : Rd w R p) (hp : p ≤ 700000) :
    Calls Try.prog 58 #[.pointer (some ⟨R, 0, none⟩), .int .i64 6] w fun e w' => ∃ A n c zs q, e = .returned (.slice A n c) ∧ n ≤ 7 ∧ Row w' w.heap.size w'.heap.size A n zs ∧ q ≤ 110 ∧ Rd w' R (p + q) ∧ Upd (fun k => k = R) w w' := by
  have hRl := h.lt
  go_enter Try.func58, Try.ntmps58
  go_wp2_with fail
  refine (goodOrder_any R p w h (by omega)).mono ?_
  rintro e w1 ⟨A, n, c, zs, q, rfl, hn6, r1, hq, hR1, hU1⟩
  have z1 := hU1.size
  by_cases hn : 0 < n
  · obtain ⟨b, ys, rfl, hb0, hb1, hAr⟩ := r1.2 hn
    have hlen := Lib.hid r1.len
    clear r1
    go_wp2_with fail
    refine (pick_any R (p + q) n w1 hR1 (by omega)).mono ?_
    rintro e w2 ⟨k, rfl, hk, hR2, hU2⟩
    obtain ⟨k0, k1⟩ := hk.1 (by omega)
    obtain ⟨k, rfl⟩ := Int.eq_ofNat_of_zero_le k0
    have hA2 := hAr.upd hU2 (by omega)
    have z2 := hU2.size
    have hUw2 := hU1.trans hU2
    clear hk hR1 hAr hU2
    go_wp2_with fail
    refine (pick_any R (p + q + 1) 40 w2 hR2 (by omega)).mono ?_
    rintro e w3 ⟨x, rfl, -, hR3, hU3⟩
    have hA3 := hA2.upd hU3 (by omega)
    have z3 := hU3.size
    have hUw3 := hUw2.trans hU3
    clear hR2 hA2 hU3 hUw2
    have hkl : k < (zs ++ ys).length := by rw [List.length_append, hlen.out]; omega
    have hck := hA3.cell hkl
    have hfk := hA3.frozen k
    have hset : ∀ v : Int, (zs ++ ys).set k v = zs.set k v ++ ys := fun v => List.set_append_left _ _ (by rw [hlen.out]; omega)
    have hpk : ∀ w, Calls Try.prog 77 #[.int .i64 (k : Int)] w fun e w' => e = .returned (.int .i64 (powI k)) ∧ w = w' := fun w => power_any _ _ (by omega) (by omega)
    have hpn : ∀ w, Calls Try.prog 77 #[.int .i64 (n : Int)] w fun e w' => e = .returned (.int .i64 (powI n)) ∧ w = w' := fun w => power_any _ _ (by omega) (by omega)
    by_cases x0 : x = 0
    · subst x0
      obtain ⟨z, hz⟩ : ∃ z, (zs ++ ys)[k]?.getD 0 = z := ⟨_, rfl⟩
      rw [hz] at hck
      have hRd : Rd w3.drew R (p + q + 1 + 1) := hR3
      have hcel : ∀ w4, Upd (fun k => k = R) w3.drew w4 → w4.cell? ⟨b, k, none⟩ = some (.int .i64 z) ∧ w4.frozen? ⟨b, k, none⟩ = false := fun w4 hU4 =>
        ⟨hU4.cell (p := ⟨b, k, none⟩) hck (by simp; omega), (hA3.drew.upd hU4 (by omega)).frozen k⟩
      have hfin : ∀ w4 xv, Upd (fun k => k = R) w3.drew w4 → Rd w4 R (p + q + 1 + 1 + 1) →
          Row (w4.setCell ⟨b, k, none⟩ (.int .i64 xv)) w.heap.size (w4.setCell ⟨b, k, none⟩ (.int .i64 xv)).heap.size (some ⟨b, 0, none⟩) n (zs.set k xv) ∧
          Rd (w4.setCell ⟨b, k, none⟩ (.int .i64 xv)) R (p + (q + 3)) ∧ Upd (fun k => k = R) w (w4.setCell ⟨b, k, none⟩ (.int .i64 xv)) := fun w4 xv hU4 hR4 => by
        have hA4 := hA3.drew.upd hU4 (by omega)
        have z4 : w3.heap.size ≤ w4.heap.size := hU4.size
        have hU4' := hUw3.drew.trans hU4
        have hA6 := hA4.set k xv
        rw [hset] at hA6
        have hU6 : Upd (fun i => w.heap.size ≤ i ∧ i = b) w4 (w4.setCell ⟨b, k, none⟩ (.int .i64 xv)) := (Upd.refl (fun i => w.heap.size ≤ i ∧ i = b) w4).setCell (p := ⟨b, k, none⟩) (.inr ⟨hb0, rfl⟩) _
        refine ⟨⟨by simpa using hlen.out, fun _ => ⟨b, ys, rfl, hb0, by simp [World.setCell]; omega, hA6⟩⟩, ?_, hU4'.trans' hU6 (fun i hi e => by omega)⟩
        rw [show p + (q + 3) = p + q + 1 + 1 + 1 by omega]; exact hR4.upd hU6 (fun i hi => by omega)
      have hpick : Calls Try.prog 79 #[.pointer (some ⟨R, 0, none⟩), .int .i64 (n : Int)] w3.drew fun e w' => ∃ v, e = .returned (.int .i64 v) ∧ 0 ≤ v ∧ v < n ∧ Rd w' R (p + q + 1 + 1 + 1) ∧ Upd (fun k => k = R) w3.drew w' := by
        refine (pick_any R (p + q + 1 + 1) n _ hRd (by omega)).mono ?_
        rintro e w4 ⟨v, rfl, hv, hR4, hU4⟩
        exact ⟨v, rfl, (hv.1 (by omega)).1, (hv.1 (by omega)).2, hR4, hU4⟩
      have hq : q + 3 ≤ 110 := by omega
      have hn7 : n ≤ 7 := by omega
      clear hpk hpn hRd hset hR3 hA3 hUw3 hz hlen hkl hRl h hp hU1 z1 hb0 hb1 z2 z3
      go_wp2
      go_region_with (first
        | (go_at_call 79; refine hpick.mono ?_; rintro e w4 ⟨v, rfl, hv0, hv1, hR4, hU4⟩; obtain ⟨hck4, hfk4⟩ := hcel w4 hU4)
        | (go_at_call 77; refine (power_any _ _ (by omega) (by omega)).mono ?_; rintro e w' ⟨rfl, rfl⟩))
      all_goals
        obtain ⟨hf1, hf2, hf3⟩ := hfin w4 (bits .xor .i64 z (powI v)) hU4 hR4
        clear hfin hcel hpick hck hfk hck4 hfk4 hR4 hU4
        obtain ⟨W5, hW5⟩ : ∃ W5, w4.setCell ⟨b, k, none⟩ (.int .i64 (bits .xor .i64 z (powI v))) = W5 := ⟨_, rfl⟩
        rw [hW5] at hf1 hf2 hf3 ⊢
        obtain ⟨xv, hxv⟩ : ∃ xv, bits .xor .i64 z (powI v) = xv := ⟨_, rfl⟩
        rw [hxv] at hf1 ⊢
        clear hW5 hxv
        go_wp2
        go_ret
        exact ⟨_, n, c, _, q + 3, rfl, hn7, hf1, hq, hf2, hf3⟩
    · by_cases x1 : x = 1
      · subst x1
        go_wp2_with (first
          | (go_at_call 77; with_reducible refine (hpn _).mono ?_; rintro e w' ⟨rfl, rfl⟩)
          | (go_at_call 77; with_reducible refine (hpk _).mono ?_; rintro e w' ⟨rfl, rfl⟩))
        have hL : Arr (w3.alloc (.cells #[Value.int .i64 (-1), .int .i64 (powI n), .int .i64 (powI k)] 3)) w3.heap.size 3 [-1, powI n, powI k] := heap_alloc_new w3 _
        have hup : Upd (fun _ => False) w3 (w3.alloc (.cells #[Value.int .i64 (-1), .int .i64 (powI n), .int .i64 (powI k)] 3)) := (Upd.refl _ _).alloc _
        obtain ⟨W4, hW4⟩ : ∃ W4, w3.alloc (.cells #[Value.int .i64 (-1), .int .i64 (powI n), .int .i64 (powI k)] 3) = W4 := ⟨_, rfl⟩
        rw [hW4] at hL hup ⊢
        clear hW4
        have z4 := hup.size
        refine (one_any R (p + q + 1 + 1) _ 3 3 _ _ W4 (hR3.upd hup (fun _ e => e.elim)) (by omega) (hL.ints' (n := 3) hL.lt rfl) (fun b off e => by cases e; omega) (by omega) (by omega)).mono ?_
        rintro e w5 ⟨v, rfl, -, hR5, hU5⟩
        have hA5 := (hA3.upd hup (fun e => e)).upd hU5 (by omega)
        have z5 := hU5.size
        have hck5 := hA5.cell hkl
        have hfk5 := hA5.frozen k
        have hU5' := (hUw3.trans (hup.mono fun _ _ e => e.elim)).trans hU5
        go_wp2
        go_ret
        have hA6 := hA5.set k v
        rw [hset] at hA6
        have hU6 : Upd (fun i => w.heap.size ≤ i ∧ i = b) w5 (w5.setCell ⟨b, k, none⟩ (.int .i64 v)) := (Upd.refl (fun i => w.heap.size ≤ i ∧ i = b) w5).setCell (p := ⟨b, k, none⟩) (.inr ⟨hb0, rfl⟩) _
        exact ⟨_, n, c, zs.set k v, q + 3, rfl, by omega, ⟨by simpa using hlen.out, fun _ => ⟨b, ys, rfl, hb0, by simp [World.setCell]; omega, hA6⟩⟩, by omega, hR5.upd hU6 (fun i hi => by omega), hU5'.trans' hU6 (fun i hi e => by omega)⟩
      · by_cases x2 : x = 2
        · subst x2
          have hmk := run_make_row' (P := Try.prog) 23 3 (.int .i64 0) 8 Try.underlying23 infoInt rfl .i64 .i64 7 (by omega) (by omega)
          simp only [Int.cast_ofNat_Int] at hmk
          go_wp2
          go_ret
          exact ⟨_, 7, 7, List.replicate 7 0, q + 2, rfl, by omega, Row.of (Arr.new w3 3 7) (by simp) (by omega) (by simp), by omega, hR3.upd ((Upd.refl (fun _ => False) w3).alloc _) (fun _ e => e.elim), hUw3.alloc _⟩
        · go_wp2
          go_ret
          exact ⟨_, n, c, zs, q + 2, rfl, by omega, ⟨hlen.out, fun _ => ⟨b, ys, rfl, hb0, by omega, hA3⟩⟩, by omega, hR3, hUw3⟩
  · obtain rfl : n = 0 := by omega
    go_wp2
    go_ret
    exact ⟨A, 0, c, zs, q, rfl, by omega, r1, by omega, hR1, hU1⟩
end Go.Proofs.Ythjmedbjdjkilaa

/- Arguments that are drawn: a new reader, and what is drawn reads as numbers. -/
namespace Go.Proofs.Ythjmedbjdjkilaa
open Go.RowKit Go.Shelf

/-- A list that is drawn reads as numbers, few of them. -/
def Drawn (w : World) (e : Ending) (w' : World) : Prop := ∃ A n c zs, e = .returned (.slice A n c) ∧ n ≤ 7 ∧ Ints w' w'.heap.size A n zs ∧ Below w.heap.size w w'
theorem newReader_rd {A : Option Addr} {m c : Nat} {bs : List Int} {w : World} (h : Byts w w.heap.size A m bs) (hcap : m ≤ c) (hbig : m ≤ 1152921504606846976) :
    Calls Try.prog 59 #[.slice A m c] w fun e w' => e = .returned (.pointer (some ⟨w.heap.size, 0, none⟩)) ∧ Rd w' w.heap.size 0 ∧ Below w.heap.size w w' ∧ w.heap.size < w'.heap.size := by
  refine (newReader_any A m c bs w h hcap hbig).mono ?_
  rintro e w0 ⟨rfl, rfl⟩
  exact ⟨rfl, ⟨A, min m 2000, c, bs.take (min m 2000), by omega, heap_alloc_new w _, (h.take (by omega)).below (((Below.refl w.heap.size w).alloc (Nat.le_refl _)) _)⟩, (Below.refl w.heap.size w).alloc (Nat.le_refl _) _, by simp⟩
end Go.Proofs.Ythjmedbjdjkilaa

/- The arguments of FirstChance, drawn. -/
namespace Go.Proofs.Ythjmedbjdjkilaa
open Go.RowKit Go.Shelf

set_option maxRecDepth 100000 in
set_option maxHeartbeats 4000000 in
theorem anItem_any (R p n : Nat) (w : World) (hR0 : Rd w R p) (hp : p ≤ 900000) (hn : n ≤ 7) :
    Calls Try.prog 86 #[.pointer (some ⟨R, 0, none⟩), .int .i64 (n : Int)] w fun e w' => ∃ v, e = .returned (.int .i64 v) ∧ Rd w' R (p + 7) ∧ Upd (fun k => k = R) w w' := by
  go_enter Try.func86, Try.ntmps86
  go_wp2_with fail
  refine (pick_any R _ _ w hR0 (by omega)).mono ?_
  rintro e w1 ⟨y1, rfl, -, hR1, hU1⟩
  go_wp2_with fail
  refine (pick_any R _ _ w1 hR1 (by omega)).mono ?_
  rintro e w2 ⟨y2, rfl, -, hR2, hU2⟩
  go_wp2_with fail
  refine (pick_any R _ _ w2 hR2 (by omega)).mono ?_
  rintro e w3 ⟨y3, rfl, -, hR3, hU3⟩
  go_wp2_with fail
  refine (pick_any R _ _ w3 hR3 (by omega)).mono ?_
  rintro e w4 ⟨y4, rfl, -, hR4, hU4⟩
  go_wp2_with fail
  refine (pick_any R _ _ w4 hR4 (by omega)).mono ?_
  rintro e w5 ⟨y5, rfl, -, hR5, hU5⟩
  go_wp2_with fail
  refine (pick_any R _ _ w5 hR5 (by omega)).mono ?_
  rintro e w6 ⟨y6, rfl, -, hR6, hU6⟩
  have hUU := ((((hU1.trans hU2).trans hU3).trans hU4).trans hU5).trans hU6
  have hRl := hR6.lt
  go_wp2_with fail
  have hL : Arr (w6.alloc (.cells #[Value.int .i64 y1, .int .i64 y2, .int .i64 y3, .int .i64 y4, .int .i64 y5, .int .i64 0, .int .i64 ((n : Int) - 1), .int .i64 y6, .int .i64 (n : Int), .int .i64 (-1)] 3)) w6.heap.size 3 [y1, y2, y3, y4, y5, 0, (n : Int) - 1, y6, (n : Int), -1] := heap_alloc_new w6 _
  have hUl : Upd (fun _ => False) w6 (w6.alloc (.cells #[Value.int .i64 y1, .int .i64 y2, .int .i64 y3, .int .i64 y4, .int .i64 y5, .int .i64 0, .int .i64 ((n : Int) - 1), .int .i64 y6, .int .i64 (n : Int), .int .i64 (-1)] 3)) := (Upd.refl _ _).alloc _
  obtain ⟨W6, hW6⟩ : ∃ W6, w6.alloc (.cells #[Value.int .i64 y1, .int .i64 y2, .int .i64 y3, .int .i64 y4, .int .i64 y5, .int .i64 0, .int .i64 ((n : Int) - 1), .int .i64 y6, .int .i64 (n : Int), .int .i64 (-1)] 3) = W6 := ⟨_, rfl⟩
  rw [hW6] at hL hUl ⊢
  clear hW6
  refine (one_any R _ _ 10 10 _ _ W6 (hR6.upd hUl (fun _ e => e.elim)) (by omega) (hL.ints' (n := 10) hL.lt rfl) (fun b off e => by cases e; omega) (by omega) (by omega)).mono ?_
  rintro e w7 ⟨v, rfl, -, hR7, hU7⟩
  go_wp2_with fail
  go_ret
  exact ⟨v, rfl, hR7, hUU.trans ((hUl.mono (S := fun k => k = R) (fun _ _ e => e.elim)).trans hU7)⟩

set_option maxHeartbeats 2000000 in
theorem drawFirstChance_any (A : Option Addr) (m c : Nat) (bs : List Int) (w : World) (h : Byts w w.heap.size A m bs) (hcap : m ≤ c) (hbig : m ≤ 1152921504606846976) :
    Calls Try.prog 33 #[.slice A m c] w fun e w' => ∃ A n c zs a b, e = .returned (.tuple #[.slice A n c, .int .i64 a, .int .i64 b]) ∧ n ≤ 7 ∧ Ints w' w'.heap.size A n zs ∧ Below w.heap.size w w' := by
  go_enter Try.func33, Try.ntmps33
  go_wp2_with fail
  refine (newReader_rd h hcap hbig).mono ?_
  rintro e w0 ⟨rfl, hR, hB, hz⟩
  go_wp2_with fail
  refine (someOrder_any _ 0 w0 hR (by omega)).mono ?_
  rintro e w1 ⟨A', n, c', zs, q, rfl, hn, r, hq, hR1, hU⟩
  have zU := hU.size
  have hB1 := hB.trans (hU.toBelow (fun k e => by omega) (by omega))
  clear hR hB hU
  go_wp2_with fail
  refine (anItem_any _ _ n w1 hR1 (by omega) hn).mono ?_
  rintro e w2 ⟨a, rfl, hR2, hU2⟩
  go_wp2_with fail
  refine (anItem_any _ _ n w2 hR2 (by omega) hn).mono ?_
  rintro e w3 ⟨b, rfl, hR3, hU3⟩
  have hUU := hU2.trans hU3
  have z3 := hUU.size
  have r3 := r.upd hUU (fun j e => by omega)
  have hB3 := hB1.trans (hUU.toBelow (fun k e => by omega) (by omega))
  go_wp2_with fail
  go_ret3
  exact ⟨A', n, c', zs, a, b, rfl, hn, r3.ints z3, hB3⟩
end Go.Proofs.Ythjmedbjdjkilaa

/- One item ahead of another one: the lines of the order with the one above the other, and the sets at which an item comes next. No program. -/
namespace Go.Proofs.Ythjmedbjdjkilaa

/-! The sets at which an item comes next. -/
theorem filter_with {n a x : Nat} (hn : n ≤ 6) (hxn : x < n) (hax : a ≠ x) : ((List.range (2 ^ n)).filter fun s : Nat => s.testBit x && !s.testBit a) = ((List.range (2 ^ n)).filter fun s : Nat => !s.testBit x && !s.testBit a).map fun s => s + 2 ^ x := by
  have h64 := pow_le64 hn
  have h1 := with_item ⟨n, by omega⟩ ⟨x, by omega⟩ hxn
  simp only at h1
  have e1 : ((List.range (2 ^ n)).filter fun s : Nat => s.testBit x && !s.testBit a) = ((List.range (2 ^ n)).filter fun s : Nat => s.testBit x).filter fun s : Nat => !s.testBit a := by
    rw [List.filter_filter]; congr 1; funext s; exact Bool.and_comm _ _
  have e2 : ((List.range (2 ^ n)).filter fun s : Nat => !s.testBit x && !s.testBit a) = ((List.range (2 ^ n)).filter fun s : Nat => !s.testBit x).filter fun s : Nat => !s.testBit a := by
    rw [List.filter_filter]; congr 1; funext s; exact Bool.and_comm _ _
  rw [e1, e2, h1, List.filter_map]
  congr 1
  refine List.filter_congr fun s hs => ?_
  rw [List.mem_filter, List.mem_range] at hs
  have hb : s.testBit x = false := by simpa using hs.2
  have hlt := add_lt_fin ⟨n, by omega⟩ ⟨s, by omega⟩ ⟨x, by omega⟩ hs.1 hxn hb
  simp only at hlt
  simp only [Function.comp]
  rcases Nat.lt_or_ge a 6 with ha | ha
  · have := add_bit_fin ⟨s, by omega⟩ ⟨x, by omega⟩ ⟨a, ha⟩ hb
    simp only at this
    rw [this, decide_eq_false (show ¬ x = a from fun e => hax e.symm), Bool.or_false]
  · have h6 : ∀ t : Nat, t < 64 → t.testBit a = false := fun t ht => Nat.testBit_lt_two_pow (Nat.lt_of_lt_of_le (show t < 2 ^ 6 by omega) (Nat.pow_le_pow_right (by decide) ha))
    rw [h6 _ (by omega), h6 _ (by omega)]
/-- Going on by x, out of the sets without a. -/
def goE (zs : List Int) (a x : Nat) : Nat := ((List.range (2 ^ zs.length)).map fun s => if nextE zs s x && !s.testBit a then cG zs s * cF zs (2 ^ zs.length - 1 - (s + 2 ^ x)) else 0).sum
theorem goE_back {zs : List Int} (h : VoP zs) {a x : Nat} (hx : x < zs.length) (hax : a ≠ x) :
    goE zs a x = ((List.range (2 ^ zs.length)).map fun s => if eG zs s x && !s.testBit a then cG zs (s - 2 ^ x) * cF zs (2 ^ zs.length - 1 - s) else 0).sum := by
  have hn6 := h.1
  unfold goE
  have e1 : ((List.range (2 ^ zs.length)).map fun s => if nextE zs s x && !s.testBit a then cG zs s * cF zs (2 ^ zs.length - 1 - (s + 2 ^ x)) else 0).sum =
      (((List.range (2 ^ zs.length)).filter fun s : Nat => !s.testBit x && !s.testBit a).map fun s => if nextE zs s x then cG zs s * cF zs (2 ^ zs.length - 1 - (s + 2 ^ x)) else 0).sum := by
    rw [← sum_if]
    refine sum_congr fun s _ => ?_
    cases hb : s.testBit x
    · cases s.testBit a <;> cases nextE zs s x <;> rfl
    · have : nextE zs s x = false := by unfold nextE; rw [hb]; rfl
      rw [this]; rfl
  have e2 : ((List.range (2 ^ zs.length)).map fun s => if eG zs s x && !s.testBit a then cG zs (s - 2 ^ x) * cF zs (2 ^ zs.length - 1 - s) else 0).sum =
      (((List.range (2 ^ zs.length)).filter fun s : Nat => s.testBit x && !s.testBit a).map fun s => if eG zs s x then cG zs (s - 2 ^ x) * cF zs (2 ^ zs.length - 1 - s) else 0).sum := by
    rw [← sum_if]
    refine sum_congr fun s _ => ?_
    cases hb : s.testBit x
    · have : eG zs s x = false := by unfold eG; rw [hb]; rfl
      rw [this]; rfl
    · cases s.testBit a <;> cases eG zs s x <;> rfl
  rw [e1, e2, filter_with hn6 hx hax, List.map_map]
  refine sum_congr fun s hs => ?_
  rw [List.mem_filter, Bool.and_eq_true] at hs
  have hN := List.mem_range.1 hs.1
  have hb : s.testBit x = false := by simpa using hs.2.1
  simp only [Function.comp, Nat.add_sub_cancel]
  exact edge_same h hN hx hb _
theorem sum_but {f : Nat → Nat} {a N : Nat} (ha : a < N) : ((List.range N).map f).sum = ((List.range N).map fun x => if x = a then 0 else f x).sum + f a := sum_pick f a N ha
/-- Each line comes by a once: the lines, by the sets that are ahead of a. -/
theorem by_item {zs : List Int} (h : VoP zs) {a : Nat} (ha : a < zs.length) :
    ((List.range (2 ^ zs.length)).map fun s => if nextE zs s a then cG zs s * cF zs (2 ^ zs.length - 1 - (s + 2 ^ a)) else 0).sum = cF zs (2 ^ zs.length - 1) := by
  have hpos := Nat.two_pow_pos zs.length
  -- A, both ways
  have A1 : ((List.range (2 ^ zs.length)).map fun s => if s.testBit a then 0 else cG zs s * cF zs (2 ^ zs.length - 1 - s)).sum = ((List.range zs.length).map fun x => goE zs a x).sum := by
    unfold goE
    rw [sum_swap (fun x s => if nextE zs s x && !s.testBit a then cG zs s * cF zs (2 ^ zs.length - 1 - (s + 2 ^ x)) else 0)]
    refine sum_congr fun s hs => ?_
    have hN := List.mem_range.1 hs
    cases hb : s.testBit a
    · have hne : s ≠ 2 ^ zs.length - 1 := fun e => by
        rw [e, Nat.testBit_two_pow_sub_one, decide_eq_true ha] at hb; cases hb
      rw [cF_next h hN hne]
      simp only [Bool.not_false, Bool.and_true]
      rw [if_neg (by decide), ← sum_mul]
      refine sum_congr fun x _ => ?_
      cases nextE zs s x <;> simp
    · simp only [Bool.not_true, Bool.and_false, if_true, Bool.false_eq_true, if_false]
      exact (sum_map_zero (List.range zs.length)).symm
  have A2 : ((List.range (2 ^ zs.length)).map fun s => if s.testBit a then 0 else cG zs s * cF zs (2 ^ zs.length - 1 - s)).sum = ((List.range zs.length).map fun x => if x = a then 0 else goE zs a x).sum + cF zs (2 ^ zs.length - 1) := by
    rw [sum_pick _ 0 (2 ^ zs.length) hpos, Nat.zero_testBit, if_neg (by decide), cG_zero, Nat.one_mul, Nat.sub_zero]
    congr 1
    have e : ((List.range zs.length).map fun x => if x = a then 0 else goE zs a x).sum = ((List.range zs.length).map fun x => ((List.range (2 ^ zs.length)).map fun s => if eG zs s x && !s.testBit a then cG zs (s - 2 ^ x) * cF zs (2 ^ zs.length - 1 - s) else 0).sum).sum := by
      refine sum_congr fun x hx => ?_
      have hxn := List.mem_range.1 hx
      by_cases hxa : x = a
      · rw [if_pos hxa]
        subst hxa
        refine ((sum_congr (g := fun _ => 0) fun s _ => ?_).trans (sum_map_zero _)).symm
        unfold eG
        cases s.testBit x <;> simp
      · rw [if_neg hxa, goE_back h hxn (fun e => hxa e.symm)]
    rw [e, sum_swap (fun x s => if eG zs s x && !s.testBit a then cG zs (s - 2 ^ x) * cF zs (2 ^ zs.length - 1 - s) else 0)]
    refine sum_congr fun s hs => ?_
    by_cases h0 : s = 0
    · rw [if_pos h0]
      refine ((sum_congr (g := fun _ => 0) fun x _ => ?_).trans (sum_map_zero _)).symm
      have : eG zs s x = false := by unfold eG; rw [h0]; simp
      rw [this]; rfl
    · rw [if_neg h0]
      cases hb : s.testBit a
      · rw [if_neg (by decide), cG_pos h0, Nat.mul_comm, ← sum_mul]
        refine sum_congr fun x _ => ?_
        cases eG zs s x <;> simp [Nat.mul_comm]
      · rw [if_pos rfl]
        refine ((sum_congr (g := fun _ => 0) fun x _ => ?_).trans (sum_map_zero _)).symm
        simp
  rw [A1, sum_but ha] at A2
  have e : goE zs a a = ((List.range (2 ^ zs.length)).map fun s => if nextE zs s a then cG zs s * cF zs (2 ^ zs.length - 1 - (s + 2 ^ a)) else 0).sum := by
    unfold goE
    refine sum_congr fun s _ => ?_
    unfold nextE
    cases s.testBit a <;> simp
  rw [← e]
  omega
end Go.Proofs.Ythjmedbjdjkilaa

/- The order with one item put above another one: its lines are those with the one ahead of the other. No program. -/
namespace Go.Proofs.Ythjmedbjdjkilaa

theorem vo_mk {d : List Int} (hn : d.length ≤ 6) (hb : ∀ a, a < d.length → 0 ≤ d[a]?.getD 0 ∧ d[a]?.getD 0 < powI d.length) (hi : ∀ a, ¬ qB d a a) (ht : ∀ a b c, qB d a b → qB d b c → qB d a c) : VoP d := by
  refine ⟨hn, fun a ha => ?_, fun a ha b hbn => ?_⟩
  · have h1 := hb a ha
    have h2 : bitB (d[a]?.getD 0) a = false := by
      cases e : bitB (d[a]?.getD 0) a
      · rfl
      · exact absurd e (hi a)
    unfold okA inB
    rw [h2]
    simp only [Bool.not_false, Bool.and_true, decide_eq_true_eq]
    omega
  · unfold okP
    cases e : bitB (d[a]?.getD 0) b
    · rfl
    · have h1 : lessI (d[b]?.getD 0) (d[a]?.getD 0) = 0 := by
        refine bitB_ext (lessI_bd _ _).1 (Int.le_refl _) fun j => ?_
        rw [bitB_less, bitB_zero]
        cases e1 : bitB (d[b]?.getD 0) j
        · rfl
        · have := ht a b j e e1
          unfold qB at this
          rw [this]; rfl
      have h2 : bitB (d[b]?.getD 0) a = false := by
        cases e2 : bitB (d[b]?.getD 0) a
        · rfl
        · exact absurd (ht a b a e e2) (hi a)
      rw [h1, h2]; rfl

/-- b put above a. -/
def putB (zs : List Int) (a b : Nat) : List Int := zs.set a (orI (zs[a]?.getD 0) (powI (b : Int)))
def putA (zs : List Int) (a b : Nat) : List Int := folTo zs.length (putB zs a b) zs.length
def PA (zs : List Int) (a b x y : Nat) : Prop := qB zs x y ∨ ((x = a ∨ qB zs x a) ∧ (y = b ∨ qB zs b y))
section
variable {zs : List Int} {a b : Nat}
theorem q_trans (h : VoP zs) {x y z : Nat} (h1 : qB zs x y) (h2 : qB zs y z) : qB zs x z :=
  (h.trans (a := x) (b := y) (c := z) ⟨qB_lt rfl h1, h1⟩ ⟨qB_lt rfl h2, h2⟩).2
theorem q_irr (h : VoP zs) {x : Nat} : ¬ qB zs x x := fun e => by
  have := h.irrB (qB_lt rfl e)
  unfold qB at e
  rw [e] at this; cases this
theorem putB_fit (h : VoP zs) (hb : b < zs.length) : Fit zs.length (putB zs a b) := by
  refine ⟨by unfold putB; simp, fun j => ?_⟩
  have hz : ∀ j : Nat, 0 ≤ zs[j]?.getD 0 ∧ zs[j]?.getD 0 < powI zs.length := fun j => by
    rcases Nat.lt_or_ge j zs.length with e | e
    · exact h.sets.2 j e
    · rw [List.getElem?_eq_none e]; exact ⟨Int.le_refl _, powI_pos _⟩
  unfold putB
  by_cases e : a = j
  · subst e
    rcases Nat.lt_or_ge a zs.length with e2 | e2
    · rw [List.getElem?_set_self e2]
      exact orI_bd (hz a).1 (hz a).2 (Int.le_of_lt (powI_pos _)) (powI_lt hb)
    · rw [List.set_eq_of_length_le e2]; exact hz a
  · rw [List.getElem?_set_ne e]; exact hz j
theorem putB_q (ha : a < zs.length) (x y : Nat) : qB (putB zs a b) x y ↔ qB zs x y ∨ (x = a ∧ y = b) := by
  unfold qB putB
  by_cases e : a = x
  · subst e
    rw [List.getElem?_set_self ha]
    simp only [Option.getD_some]
    rw [bitB_or, bitB_pow, Bool.or_eq_true, decide_eq_true_eq]
    constructor
    · rintro (h | h)
      · exact .inl h
      · exact .inr ⟨by first | trivial | rfl, h.symm⟩
    · rintro (h | ⟨_, h⟩)
      · exact .inl h
      · exact .inr h.symm
  · rw [List.getElem?_set_ne e]
    constructor
    · exact .inl
    · rintro (h | ⟨h, _⟩)
      · exact h
      · exact absurd h.symm e
theorem putA_q (h : VoP zs) (ha : a < zs.length) (hb : b < zs.length) (x y : Nat) : qB (putA zs a b) x y ↔ PA zs a b x y := by
  have hd : (putB zs a b).length = zs.length := by unfold putB; simp
  constructor
  · intro hq
    refine folTo_le hd (P := PA zs a b) ?_ ?_ _ x y hq
    · rintro x y z (h1 | ⟨h1, h1'⟩) (h2 | ⟨h2, h2'⟩)
      · exact .inl (q_trans h h1 h2)
      · refine .inr ⟨.inr ?_, h2'⟩
        rcases h2 with e | e
        · subst e; exact h1
        · exact q_trans h h1 e
      · refine .inr ⟨h1, .inr ?_⟩
        rcases h1' with e | e
        · subst e; exact h2
        · exact q_trans h e h2
      · exact .inr ⟨h1, h2'⟩
    · intro x y hxy
      rcases (putB_q ha x y).1 hxy with e | ⟨e1, e2⟩
      · exact .inl e
      · exact .inr ⟨.inl e1, .inl e2⟩
  · have base : ∀ x y, qB zs x y → qB (putA zs a b) x y := fun x y e => folTo_base hd ((putB_q ha x y).2 (.inl e)) _
    have hab : qB (putA zs a b) a b := folTo_base hd ((putB_q ha a b).2 (.inr ⟨rfl, rfl⟩)) _
    rintro (e | ⟨e1, e2⟩)
    · exact base x y e
    · have h1 : qB (putA zs a b) x b := by
        rcases e1 with e | e
        · subst e; exact hab
        · exact folTo_trans hd _ a ha x b (base x a e) hab
      rcases e2 with e | e
      · subst e; exact h1
      · exact folTo_trans hd _ b hb x y h1 (base b y e)
theorem putA_len : (putA zs a b).length = zs.length := by unfold putA; rw [folTo_len]; unfold putB; simp
theorem putA_vo (h : VoP zs) (ha : a < zs.length) (hb : b < zs.length) (hab : a ≠ b) (hnb : ¬ qB zs b a) : VoP (putA zs a b) := by
  have hn6 := h.1
  have hfit := folTo_fit (putB_fit (a := a) h hb) zs.length
  refine vo_mk (by rw [putA_len]; exact hn6) (fun j hj => ?_) (fun x e => ?_) (fun x y z h1 h2 => ?_)
  · rw [putA_len]; exact hfit.2 j
  · rcases (putA_q h ha hb x x).1 e with e | ⟨e1, e2⟩
    · exact q_irr h e
    · rcases e1 with e1 | e1 <;> rcases e2 with e2 | e2
      · exact hab (e1.symm.trans e2)
      · subst e1; exact hnb e2
      · subst e2; exact hnb e1
      · exact hnb (q_trans h e2 e1)
  · have hd : (putB zs a b).length = zs.length := by unfold putB; simp
    exact folTo_trans hd _ y (by have := qB_lt putA_len h2; exact this) x z h1 h2
end

/-! The lines of it. -/
section
variable {zs : List Int} {a b : Nat}
theorem eF_q {ys : List Int} (h : VoP ys) {s x : Nat} : eF ys s x = true ↔ s.testBit x = true ∧ ∀ y, s.testBit y = true → ¬ qB ys y x := by
  rw [eF_iff h]
  unfold qB
  simp only [Bool.not_eq_true]
/-- Where all that is at or below a is done, nothing has changed. -/
theorem cF_put (h : VoP zs) (ha : a < zs.length) (hb : b < zs.length) (hv : VoP (putA zs a b)) : ∀ (k s : Nat), s ≤ k → s < 2 ^ zs.length → (∀ y, s.testBit y = true → y ≠ a ∧ ¬ qB zs y a) → cF (putA zs a b) s = cF zs s
  | 0, s, hk, _, _ => by
    obtain rfl : s = 0 := by omega
    rw [cF_zero, cF_zero]
  | k + 1, s, hk, hs, hL => by
    by_cases h0 : s = 0
    · subst h0; rw [cF_zero, cF_zero]
    · have hn6 := h.1
      have hp64 := pow_le64 hn6
      rw [cF_pos h0, cF_pos h0, putA_len]
      refine sum_congr fun x hx => ?_
      have e : eF (putA zs a b) s x = eF zs s x := by
        rw [Bool.eq_iff_iff, eF_q hv, eF_q h]
        refine and_congr_right fun _ => forall_congr' fun y => ?_
        constructor
        · exact fun e hy hq => e hy ((putA_q h ha hb y x).2 (.inl hq))
        · intro e hy hq
          rcases (putA_q h ha hb y x).1 hq with e2 | ⟨e2, _⟩
          · exact e hy e2
          · rcases e2 with e2 | e2
            · exact (hL y hy).1 e2
            · exact (hL y hy).2 e2
      rw [e]
      cases he : eF zs s x
      · rfl
      · obtain ⟨hx1, _⟩ := (eF_q h).1 he
        have hx6 := bit_lt hs hx1
        have hlt := sub_lt (a := x) h0
        rw [if_pos rfl, if_pos rfl, cF_put h ha hb hv k (s - 2 ^ x) (by omega) (by omega) fun y hy => hL y ?_]
        have hpx := Nat.two_pow_pos x
        rcases Nat.lt_or_ge y 6 with hy6 | hy6
        · rw [sub_bit_fin ⟨s, by omega⟩ ⟨x, by omega⟩ ⟨y, hy6⟩ hx1, Bool.and_eq_true] at hy
          exact hy.1
        · rw [Nat.testBit_lt_two_pow (Nat.lt_of_lt_of_le (show s - 2 ^ x < 2 ^ 6 by omega) (Nat.pow_le_pow_right (by decide) hy6))] at hy; cases hy
theorem ideal_put (h : VoP zs) (ha : a < zs.length) (hb : b < zs.length) (hv : VoP (putA zs a b)) {s : Nat} (hI : Ideal (putA zs a b) s) : Ideal zs s := fun x y hy hq => hI x y hy (by
  rw [du_bit h.sets] at hq
  rw [du_bit hv.sets]
  exact (putA_q h ha hb x y).2 (.inl hq))
/-- Where a and b are still to come, nothing has changed. -/
theorem cG_put (h : VoP zs) (ha : a < zs.length) (hb : b < zs.length) (hv : VoP (putA zs a b)) : ∀ (k s : Nat), s ≤ k → s < 2 ^ zs.length → s.testBit b = false → cG (putA zs a b) s = cG zs s
  | 0, s, hk, _, _ => by
    obtain rfl : s = 0 := by omega
    rw [cG_zero, cG_zero]
  | k + 1, s, hk, hs, hsb => by
    by_cases h0 : s = 0
    · subst h0; rw [cG_zero, cG_zero]
    · have hn6 := h.1
      have hp64 := pow_le64 hn6
      by_cases hI : Ideal zs s
      · rw [cG_pos h0, cG_pos h0, putA_len]
        have hnb : ∀ y, s.testBit y = true → y ≠ b ∧ ¬ qB zs b y := fun y hy => by
          refine ⟨fun e => (by subst e; rw [hsb] at hy; cases hy), fun e => ?_⟩
          have := hI b y hy (by rw [du_bit h.sets]; exact e)
          rw [hsb] at this; cases this
        refine sum_congr fun x hx => ?_
        have e : eG (putA zs a b) s x = eG zs s x := by
          unfold eG
          cases hsx : s.testBit x
          · rfl
          · have e1 : (lessI ((du zs)[x]?.getD 0) (s : Int) == 0) = true := by
              rw [beq_iff_eq, less_zero]; exact fun j hj => hI j x hsx hj
            have e2 : (lessI ((du (putA zs a b))[x]?.getD 0) (s : Int) == 0) = true := by
              rw [beq_iff_eq, less_zero]
              intro j hj
              rw [du_bit hv.sets] at hj
              rcases (putA_q h ha hb j x).1 hj with e3 | ⟨_, e3⟩
              · exact hI j x hsx (by rw [du_bit h.sets]; exact e3)
              · rcases e3 with e3 | e3
                · exact absurd e3 (hnb x hsx).1
                · exact absurd e3 (hnb x hsx).2
            have e4 : belowAny (putA zs a b) s x = belowAny zs s x := by
              have hs2 : s < 2 ^ (putA zs a b).length := by rw [putA_len]; exact hs
              have key : belowAny (putA zs a b) s x = false ↔ belowAny zs s x = false := by
                rw [below_any hv hs2, below_any h hs, andI_zero, andI_zero]
                refine forall_congr' fun y => ?_
                rw [bit_cast]
                refine imp_congr_right fun hy => ?_
                constructor
                · intro e5
                  cases e6 : bitB (zs[x]?.getD 0) y
                  · rfl
                  · have : qB (putA zs a b) x y := (putA_q h ha hb x y).2 (.inl e6)
                    unfold qB at this
                    rw [this] at e5; cases e5
                · intro e5
                  cases e6 : bitB ((putA zs a b)[x]?.getD 0) y
                  · rfl
                  · rcases (putA_q h ha hb x y).1 e6 with e7 | ⟨_, e7⟩
                    · unfold qB at e7; rw [e7] at e5; cases e5
                    · rcases e7 with e7 | e7
                      · exact absurd e7 (hnb y hy).1
                      · exact absurd e7 (hnb y hy).2
              cases e8 : belowAny (putA zs a b) s x <;> cases e9 : belowAny zs s x <;> simp_all
            rw [e1, e2, e4]
        rw [e]
        cases he : eG zs s x
        · rfl
        · have hx1 : s.testBit x = true := by unfold eG at he; rw [Bool.and_eq_true] at he; exact he.1
          have hx6 := bit_lt hs hx1
          have hlt := sub_lt (a := x) h0
          have hpx := Nat.two_pow_pos x
          have hbb : (s - 2 ^ x).testBit b = false := by
            rw [sub_bit_fin ⟨s, by omega⟩ ⟨x, by omega⟩ ⟨b, by omega⟩ hx1]
            simp only [hsb, Bool.false_and]
          rw [if_pos rfl, if_pos rfl, cG_put h ha hb hv k (s - 2 ^ x) (by omega) (by omega) hbb]
      · have z1 : cG zs s = 0 := by
          rcases Nat.eq_zero_or_pos (cG zs s) with e | e
          · exact e
          · exact absurd (cG_ideal h s s (Nat.le_refl _) hs (by omega)) hI
        have z2 : cG (putA zs a b) s = 0 := by
          rcases Nat.eq_zero_or_pos (cG (putA zs a b) s) with e | e
          · exact e
          · exact absurd (ideal_put h ha hb hv (cG_ideal hv s s (Nat.le_refl _) (by rw [putA_len]; exact hs) (by omega))) hI
        rw [z1, z2]
/-- As the model asks it: a and b are still to come, and all below a is there. -/
def mB (zs : List Int) (a b s : Nat) : Bool := !s.testBit a && (!s.testBit b && (lessI ((du zs)[a]?.getD 0) (s : Int) == 0))
/-- In how many lines a is ahead of b. -/
def fcN (zs : List Int) (a b : Nat) : Nat := ((List.range (2 ^ zs.length)).map fun s => if mB zs a b s then cG zs s * cF zs (2 ^ zs.length - 1 - (s + 2 ^ a)) else 0).sum
theorem fc_put (h : VoP zs) (ha : a < zs.length) (hb : b < zs.length) (hab : a ≠ b) (hnb : ¬ qB zs b a) : fcN zs a b = cF (putA zs a b) (2 ^ zs.length - 1) := by
  have hn6 := h.1
  have hp64 := pow_le64 hn6
  have hv := putA_vo h ha hb hab hnb
  have hby := by_item hv (a := a) (by rw [putA_len]; exact ha)
  rw [putA_len] at hby
  rw [← hby]
  unfold fcN
  refine sum_congr fun s hs => ?_
  have hN := List.mem_range.1 hs
  have hdu : (du (putA zs a b))[a]?.getD 0 = (du zs)[a]?.getD 0 := by
    have h1 := (du_vo hv).bd a (by rw [du_len, putA_len]; exact ha)
    have h2 := (du_vo h).bd a (by rw [du_len]; exact ha)
    refine bitB_ext h1.1 h2.1 fun j => ?_
    rw [du_bit hv.sets, du_bit h.sets, Bool.eq_iff_iff]
    constructor
    · intro e
      rcases (putA_q h ha hb j a).1 e with e | ⟨_, e⟩
      · exact e
      · rcases e with e | e
        · exact absurd e hab
        · exact absurd e hnb
    · exact fun e => (putA_q h ha hb j a).2 (.inl e)
  have hnx : nextE (putA zs a b) s a = nextE zs s a := by unfold nextE; rw [hdu]
  rw [hnx]
  cases hsa : s.testBit a
  · cases hle : (lessI ((du zs)[a]?.getD 0) (s : Int) == 0)
    · have e1 : mB zs a b s = false := by unfold mB; rw [hle]; simp
      have e2 : nextE zs s a = false := by unfold nextE; rw [hle]; simp
      rw [e1, e2]; rfl
    · have e2 : nextE zs s a = true := by unfold nextE; rw [hsa, hle]; rfl
      rw [e2, if_pos rfl]
      cases hsb : s.testBit b
      · have e1 : mB zs a b s = true := by unfold mB; rw [hsa, hsb, hle]; rfl
        rw [e1, if_pos rfl, cG_put h ha hb hv s s (Nat.le_refl _) hN hsb]
        have hlt := add_lt_fin ⟨zs.length, by omega⟩ ⟨s, by omega⟩ ⟨a, by omega⟩ hN ha hsa
        simp only at hlt
        have hpa := Nat.two_pow_pos a
        rw [cF_put h ha hb hv _ (2 ^ zs.length - 1 - (s + 2 ^ a)) (Nat.le_refl _) (by omega) fun y hy => ?_]
        have hyn := bit_lt (n := zs.length) (by omega) hy
        have hy2 := com_bit_fin ⟨zs.length, by omega⟩ ⟨s + 2 ^ a, by omega⟩ hlt ⟨y, by omega⟩
        have hy3 := add_bit_fin ⟨s, by omega⟩ ⟨a, by omega⟩ ⟨y, by omega⟩ hsa
        simp only at hy2 hy3
        rw [hy2, hy3] at hy
        simp only [Bool.and_eq_true, Bool.not_eq_true', Bool.or_eq_false_iff, decide_eq_false_iff_not] at hy
        refine ⟨fun e => hy.2.2 e.symm, fun e => ?_⟩
        have := less_zero.1 (beq_iff_eq.1 hle) y (by rw [du_bit h.sets]; exact e)
        rw [hy.2.1] at this; cases this
      · have e1 : mB zs a b s = false := by unfold mB; rw [hsb]; simp
        have z : cG (putA zs a b) s = 0 := by
          rcases Nat.eq_zero_or_pos (cG (putA zs a b) s) with e | e
          · exact e
          · have hI := cG_ideal hv s s (Nat.le_refl _) (by rw [putA_len]; exact hN) (by omega)
            have := hI a b hsb (by rw [du_bit hv.sets]; exact (putA_q h ha hb a b).2 (.inr ⟨.inl rfl, .inl rfl⟩))
            rw [hsa] at this; cases this
        rw [e1, z, Nat.zero_mul]; rfl
  · have e1 : mB zs a b s = false := by unfold mB; rw [hsa]; rfl
    have e2 : nextE zs s a = false := by unfold nextE; rw [hsa]; rfl
    rw [e1, e2]; rfl
theorem fc_none (h : VoP zs) (hba : qB zs b a) : fcN zs a b = 0 := by
  unfold fcN
  refine (sum_congr (g := fun _ => 0) fun s _ => ?_).trans (sum_map_zero _)
  have : mB zs a b s = false := by
    cases e : mB zs a b s
    · rfl
    · unfold mB at e
      rw [Bool.and_eq_true, Bool.and_eq_true] at e
      have h1 := less_zero.1 (beq_iff_eq.1 e.2.2) b (by rw [du_bit h.sets]; exact hba)
      rw [h1] at e; simp at e
  rw [this]; rfl
end
end Go.Proofs.Ythjmedbjdjkilaa

/- Fractions without a common factor: the model's and the program's. -/
namespace Go.Proofs.Ythjmedbjdjkilaa
open Go.RowKit Go.Shelf

theorem results_cell_row2 {P : Program} {fn : Func} {p q : Tmp} {ty : TypeId} (h : fn.results = #[.cell p ty, .tmp q]) (tmps : Array Value) (w : World) (g : Nat) (t : TypeId) (cs : Array Value) (fr : Nat × Nat) (d : TypeDesc) (v : Value)
    (hp : tmps.getD p undef = .pointer (some ⟨g, 0, none⟩)) (hq : tmps.getD q undef = v) (hg : w.heap[g]? = some (.cells cs t fr))
    (hu : P.underlying ty = some d) (hd : (match d with | .struct _ | .array _ _ => true | _ => false) = true) (hi : (P.info? ty).map (·.size) = some cs.size) :
    (results fn tmps).run P w = .ok (.tuple #[.agg cs, v]) w := by
  have hp' : tmps[p]?.getD undef = .pointer (some ⟨g, 0, none⟩) := by simpa using hp
  have hq' : tmps[q]?.getD undef = v := by simpa using hq
  simp [results, h, hp', hq', asAddr, run_loadVar_row w g t ty cs fr d hg hu hd hi]

theorem wrap_nat {x : Int} {k : Nat} (h : x = (k : Int)) (hk : k ≤ 1000000) : IntKind.i64.wrap x = x := by rw [IntKind.wrap_i64]; omega

set_option maxHeartbeats 1000000 in
theorem gcd_any (u t : Nat) (w : World) (hu : u ≤ 1000000) (ht : t ≤ 1000000) :
    Calls Try.prog 118 #[.int .i64 (u : Int), .int .i64 (t : Int)] w fun e w' => e = .returned (.int .i64 (Nat.gcd u t : Int)) ∧ w = w' := by
  go_enter Try.func118, Try.ntmps118
  go_wp2
  go_loop [0, 1] (fun x y => ∃ p q : Nat, p ≤ 1000000 ∧ q ≤ 1000000 ∧ x = .int .i64 (p : Int) ∧ y = .int .i64 (q : Int) ∧ Nat.gcd p q = Nat.gcd u t) (fun _ y => (intOf y).toNat)
  case atStart => exact ⟨u, t, hu, ht, rfl, rfl, rfl⟩
  case round =>
    obtain ⟨p, q, hp, hq, rfl, rfl, hg⟩ := hrel
    by_cases h0 : q = 0
    · subst h0
      have Hg := Lib.hid (show Nat.gcd u t = p by rw [← hg, Nat.gcd_zero_right])
      clear hg
      have hmax : max (p : Int) (-(p : Int)) = (p : Int) := by omega
      go_wp2
      go_ret
      exact ⟨ret_int (by rw [Hg.out]), rfl⟩
    · have hne : ((q : Int) != 0) = true := by simpa using h0
      have hlt := Nat.mod_lt p (show 0 < q by omega)
      have Hg := Lib.hid (show Nat.gcd q (p % q) = Nat.gcd u t by rw [← hg, Nat.gcd_comm p q, Nat.gcd_rec q p, Nat.gcd_comm])
      have hmod : (p : Int).tmod (q : Int) = ((p % q : Nat) : Int) := rfl
      clear hg
      go_wp2
      go_round
      case rel => exact ⟨q, p % q, hq, by omega, rfl, rfl, Hg.out⟩
      case measure => simp [intOf]; omega
set_option maxHeartbeats 1000000 in
theorem commonFactor_any (u t : Nat) (w : World) (hu : u ≤ 1000000) (ht : t ≤ 1000000) :
    Calls Try.prog 114 #[.int .i64 (u : Int), .int .i64 (t : Int)] w fun e w' => e = .returned (.int .i64 (Nat.gcd u t : Int)) ∧ w = w' := by
  go_enter Try.func114, Try.ntmps114
  go_wp2
  go_loop [0, 1] (fun x y => ∃ p q : Nat, p ≤ 1000000 ∧ q ≤ 1000000 ∧ x = .int .i64 (p : Int) ∧ y = .int .i64 (q : Int) ∧ Nat.gcd p q = Nat.gcd u t) (fun x _ => (intOf x).toNat)
  case atStart => exact ⟨u, t, hu, ht, rfl, rfl, rfl⟩
  case round =>
    obtain ⟨p, q, hp, hq, rfl, rfl, hg⟩ := hrel
    by_cases h0 : p = 0
    · subst h0
      have Hg := Lib.hid (show Nat.gcd u t = q by rw [← hg, Nat.gcd_zero_left])
      clear hg
      go_wp2
      go_ret
      exact ⟨ret_int (by rw [Hg.out]), rfl⟩
    · have hpos : (0 : Int) < (p : Int) := by omega
      have hlt := Nat.mod_lt q (show 0 < p by omega)
      have Hg := Lib.hid (show Nat.gcd (q % p) p = Nat.gcd u t by rw [← hg, Nat.gcd_rec p q])
      have hmod : (q : Int).tmod (p : Int) = ((q % p : Nat) : Int) := rfl
      clear hg
      go_wp2
      go_round
      case rel => exact ⟨q % p, p, by omega, hp, rfl, rfl, Hg.out⟩
      case measure => simp [intOf]; omega
/-- A fraction, as a struct. -/
def fracV (p q : Nat) : Value := .agg #[.int .i64 (p : Int), .int .i64 (q : Int)]

set_option maxRecDepth 100000 in
set_option maxHeartbeats 4000000 in
theorem frac_any (u t : Nat) (w : World) (hu : u ≤ 1000000) (ht : t ≤ 1000000) (h0 : 1 ≤ t) :
    Calls Try.prog 91 #[.int .i64 (u : Int), .int .i64 (t : Int)] w fun e w' => e = .returned (fracV (u / Nat.gcd u t) (t / Nat.gcd u t)) ∧ Below w.heap.size w w' := by
  have hg0 : 0 < Nat.gcd u t := Nat.gcd_pos_of_pos_right u h0
  have hgt : Nat.gcd u t ≤ t := Nat.gcd_le_right u h0
  have Hgcd := Lib.hid (fun w => gcd_any u t w hu ht)
  generalize Nat.gcd u t = g at *
  have hqu : (u : Int).tdiv (g : Int) = ((u / g : Nat) : Int) := rfl
  have hqt : (t : Int).tdiv (g : Int) = ((t / g : Nat) : Int) := rfl
  have hlu : u / g ≤ u := Nat.div_le_self _ _
  have hlt : t / g ≤ t := Nat.div_le_self _ _
  unfold fracV
  go_enter Try.func91, Try.ntmps91
  have hb : (w.alloc (.cells #[.int .i64 0, .int .i64 0] 39)).heap[w.heap.size]? = some (.cells #[.int .i64 0, .int .i64 0] 39 (0, 0)) := heap_alloc_new w _
  go_wp2_with fail
  refine (Hgcd.out _).mono ?_
  rintro e w' ⟨rfl, rfl⟩
  go_wp2_with fail
  have hgne : ¬ g = 0 := by omega
  have Hwu := Lib.hid (show IntKind.i64.wrap ((u : Int) / (g : Int)) = (u : Int) / (g : Int) from wrap_nat (show (u : Int) / (g : Int) = ((u / g : Nat) : Int) from rfl) (by omega))
  have Hwt := Lib.hid (show IntKind.i64.wrap ((t : Int) / (g : Int)) = (t : Int) / (g : Int) from wrap_nat (show (t : Int) / (g : Int) = ((t / g : Nat) : Int) from rfl) (by omega))
  refine region_T (S := fun _ => True) 7 (by kernel_rfl) ?_
  refine anyT_take (i := 0) (oi := ?oi0) (v := .int .i64 (u : Int)) ?hi0 (by kernel_rfl) ?hq0 ?hy0 trivial ?rest0
  case hi0 => (simp only [List.getElem?_toArray, List.getElem?_cons_zero]; first | done | rfl)
  case hq0 => exact fun _ _ _ h => h
  case hy0 => (refine Or.inl ⟨by rfl, ?_⟩; intro wz hSw; go_simp; first | done | with_reducible rfl | simp | omega)
  try simp only [Act.put, List.setIfInBounds_toArray, List.set_cons_zero, List.set_cons_succ]
  refine anyT_take (i := 1) (oi := ?oi1) (v := .int .i64 (g : Int)) ?hi1 (by kernel_rfl) ?hq1 ?hy1 trivial ?rest1
  case hi1 => (simp only [List.getElem?_toArray, List.getElem?_cons_succ, List.getElem?_cons_zero]; first | done | rfl)
  case hq1 => exact fun _ _ _ h => h
  case hy1 => (refine Or.inl ⟨by rfl, ?_⟩; intro wz hSw; go_simp; first | done | with_reducible rfl | simp | omega)
  try simp only [Act.put, List.setIfInBounds_toArray, List.set_cons_zero, List.set_cons_succ]
  refine anyT_take (i := 2) (oi := ?oi2) (v := .int .i64 ((u / g : Nat) : Int)) ?hi2 (by kernel_rfl) ?hq2 ?hy2 trivial ?rest2
  case hi2 => (simp only [List.getElem?_toArray, List.getElem?_cons_succ, List.getElem?_cons_zero]; first | done | rfl)
  case hq2 => exact fun _ _ _ h => h
  case hy2 => (refine Or.inl ⟨by rfl, ?_⟩; intro wz hSw; go_simp; first | done | exact Hwu.out)
  try simp only [Act.put, List.setIfInBounds_toArray, List.set_cons_zero, List.set_cons_succ]
  refine anyT_take (i := 3) (oi := ?oi3) (v := .int .i64 (t : Int)) ?hi3 (by kernel_rfl) ?hq3 ?hy3 trivial ?rest3
  case hi3 => (simp only [List.getElem?_toArray, List.getElem?_cons_succ, List.getElem?_cons_zero]; first | done | rfl)
  case hq3 => exact fun _ _ _ h => h
  case hy3 => (refine Or.inl ⟨by rfl, ?_⟩; intro wz hSw; go_simp; first | done | with_reducible rfl | simp | omega)
  try simp only [Act.put, List.setIfInBounds_toArray, List.set_cons_zero, List.set_cons_succ]
  refine anyT_take (i := 4) (oi := ?oi4) (v := .int .i64 (g : Int)) ?hi4 (by kernel_rfl) ?hq4 ?hy4 trivial ?rest4
  case hi4 => (simp only [List.getElem?_toArray, List.getElem?_cons_succ, List.getElem?_cons_zero]; first | done | rfl)
  case hq4 => exact fun _ _ _ h => h
  case hy4 => (refine Or.inl ⟨by rfl, ?_⟩; intro wz hSw; go_simp; first | done | with_reducible rfl | simp | omega)
  try simp only [Act.put, List.setIfInBounds_toArray, List.set_cons_zero, List.set_cons_succ]
  refine anyT_take (i := 5) (oi := ?oi5) (v := .int .i64 ((t / g : Nat) : Int)) ?hi5 (by kernel_rfl) ?hq5 ?hy5 trivial ?rest5
  case hi5 => (simp only [List.getElem?_toArray, List.getElem?_cons_succ, List.getElem?_cons_zero]; first | done | rfl)
  case hq5 => exact fun _ _ _ h => h
  case hy5 => (refine Or.inl ⟨by rfl, ?_⟩; intro wz hSw; go_simp; first | done | exact Hwt.out)
  try simp only [Act.put, List.setIfInBounds_toArray, List.set_cons_zero, List.set_cons_succ]
  refine anyT_take (i := 6) (oi := ?oi6) (v := .agg #[.int .i64 ((u / g : Nat) : Int), .int .i64 ((t / g : Nat) : Int)]) ?hi6 (by kernel_rfl) ?hq6 ?hy6 trivial ?rest6
  case hi6 => (simp only [List.getElem?_toArray, List.getElem?_cons_succ, List.getElem?_cons_zero]; first | done | rfl)
  case hq6 => exact fun _ _ _ h => h
  case hy6 => (refine Or.inl ⟨by rfl, ?_⟩; intro wz hSw; go_simp; first | done | with_reducible rfl | simp | omega)
  try simp only [Act.put, List.setIfInBounds_toArray, List.set_cons_zero, List.set_cons_succ]
  refine anyT_one (i := 7) (by kernel_rfl) rfl (fun K' hK => ?_)
  go_simp
  refine hK.out _ _ (fun h => absurd rfl h) ?_
  clear hK K'
  try simp only [Act.put, List.setIfInBounds_toArray, List.set_cons_zero, List.set_cons_succ]
  refine anyT_done (by kernel_rfl) ?_ _
  go_wp2
  refine bodyPost_ret (v := .agg #[.int .i64 ((u : Int) / (g : Int)), .int .i64 ((t : Int) / (g : Int))]) (results_cell_row rfl _ _ w.heap.size _ _ (0, 0) _ rfl (heap_alloc_new w _) Try.underlying39 rfl (by kernel_rfl)) rfl ?_
  exact ⟨rfl, below_drewN ((Below.refl w.heap.size w).alloc (Nat.le_refl _) _) 1⟩

set_option maxRecDepth 100000 in
set_option maxHeartbeats 4000000 in
theorem fracOf_any (u t : Nat) (w : World) (hu : u ≤ 1000000) (ht : t ≤ 1000000) (h0 : 1 ≤ t) :
    Calls Try.prog 88 #[.int .i64 (u : Int), .int .i64 (t : Int)] w fun e w' => e = .returned (fracV (u / Nat.gcd u t) (t / Nat.gcd u t)) ∧ Below w.heap.size w w' := by
  have hg0 : 0 < Nat.gcd u t := Nat.gcd_pos_of_pos_right u h0
  have hgt : Nat.gcd u t ≤ t := Nat.gcd_le_right u h0
  have Hgcd := Lib.hid (fun w => commonFactor_any u t w hu ht)
  generalize Nat.gcd u t = g at *
  have hqu : (u : Int).tdiv (g : Int) = ((u / g : Nat) : Int) := rfl
  have hqt : (t : Int).tdiv (g : Int) = ((t / g : Nat) : Int) := rfl
  have hlu : u / g ≤ u := Nat.div_le_self _ _
  have hlt : t / g ≤ t := Nat.div_le_self _ _
  unfold fracV
  go_enter Try.func88, Try.ntmps88
  have hb : (w.alloc (.cells #[.int .i64 0, .int .i64 0] 39)).heap[w.heap.size]? = some (.cells #[.int .i64 0, .int .i64 0] 39 (0, 0)) := heap_alloc_new w _
  go_wp2_with fail
  refine (Hgcd.out _).mono ?_
  rintro e w' ⟨rfl, rfl⟩
  go_wp2_with fail
  have hgne : ¬ g = 0 := by omega
  have Hwu := Lib.hid (show IntKind.i64.wrap ((u : Int) / (g : Int)) = (u : Int) / (g : Int) from wrap_nat (show (u : Int) / (g : Int) = ((u / g : Nat) : Int) from rfl) (by omega))
  have Hwt := Lib.hid (show IntKind.i64.wrap ((t : Int) / (g : Int)) = (t : Int) / (g : Int) from wrap_nat (show (t : Int) / (g : Int) = ((t / g : Nat) : Int) from rfl) (by omega))
  refine region_T (S := fun _ => True) 7 (by kernel_rfl) ?_
  refine anyT_take (i := 0) (oi := ?oi0) (v := .int .i64 (u : Int)) ?hi0 (by kernel_rfl) ?hq0 ?hy0 trivial ?rest0
  case hi0 => (simp only [List.getElem?_toArray, List.getElem?_cons_zero]; first | done | rfl)
  case hq0 => exact fun _ _ _ h => h
  case hy0 => (refine Or.inl ⟨by rfl, ?_⟩; intro wz hSw; go_simp; first | done | with_reducible rfl | simp | omega)
  try simp only [Act.put, List.setIfInBounds_toArray, List.set_cons_zero, List.set_cons_succ]
  refine anyT_take (i := 1) (oi := ?oi1) (v := .int .i64 (g : Int)) ?hi1 (by kernel_rfl) ?hq1 ?hy1 trivial ?rest1
  case hi1 => (simp only [List.getElem?_toArray, List.getElem?_cons_succ, List.getElem?_cons_zero]; first | done | rfl)
  case hq1 => exact fun _ _ _ h => h
  case hy1 => (refine Or.inl ⟨by rfl, ?_⟩; intro wz hSw; go_simp; first | done | with_reducible rfl | simp | omega)
  try simp only [Act.put, List.setIfInBounds_toArray, List.set_cons_zero, List.set_cons_succ]
  refine anyT_take (i := 2) (oi := ?oi2) (v := .int .i64 ((u / g : Nat) : Int)) ?hi2 (by kernel_rfl) ?hq2 ?hy2 trivial ?rest2
  case hi2 => (simp only [List.getElem?_toArray, List.getElem?_cons_succ, List.getElem?_cons_zero]; first | done | rfl)
  case hq2 => exact fun _ _ _ h => h
  case hy2 => (refine Or.inl ⟨by rfl, ?_⟩; intro wz hSw; go_simp; first | done | exact Hwu.out)
  try simp only [Act.put, List.setIfInBounds_toArray, List.set_cons_zero, List.set_cons_succ]
  refine anyT_take (i := 3) (oi := ?oi3) (v := .int .i64 (t : Int)) ?hi3 (by kernel_rfl) ?hq3 ?hy3 trivial ?rest3
  case hi3 => (simp only [List.getElem?_toArray, List.getElem?_cons_succ, List.getElem?_cons_zero]; first | done | rfl)
  case hq3 => exact fun _ _ _ h => h
  case hy3 => (refine Or.inl ⟨by rfl, ?_⟩; intro wz hSw; go_simp; first | done | with_reducible rfl | simp | omega)
  try simp only [Act.put, List.setIfInBounds_toArray, List.set_cons_zero, List.set_cons_succ]
  refine anyT_take (i := 4) (oi := ?oi4) (v := .int .i64 (g : Int)) ?hi4 (by kernel_rfl) ?hq4 ?hy4 trivial ?rest4
  case hi4 => (simp only [List.getElem?_toArray, List.getElem?_cons_succ, List.getElem?_cons_zero]; first | done | rfl)
  case hq4 => exact fun _ _ _ h => h
  case hy4 => (refine Or.inl ⟨by rfl, ?_⟩; intro wz hSw; go_simp; first | done | with_reducible rfl | simp | omega)
  try simp only [Act.put, List.setIfInBounds_toArray, List.set_cons_zero, List.set_cons_succ]
  refine anyT_take (i := 5) (oi := ?oi5) (v := .int .i64 ((t / g : Nat) : Int)) ?hi5 (by kernel_rfl) ?hq5 ?hy5 trivial ?rest5
  case hi5 => (simp only [List.getElem?_toArray, List.getElem?_cons_succ, List.getElem?_cons_zero]; first | done | rfl)
  case hq5 => exact fun _ _ _ h => h
  case hy5 => (refine Or.inl ⟨by rfl, ?_⟩; intro wz hSw; go_simp; first | done | exact Hwt.out)
  try simp only [Act.put, List.setIfInBounds_toArray, List.set_cons_zero, List.set_cons_succ]
  refine anyT_take (i := 6) (oi := ?oi6) (v := .agg #[.int .i64 ((u / g : Nat) : Int), .int .i64 ((t / g : Nat) : Int)]) ?hi6 (by kernel_rfl) ?hq6 ?hy6 trivial ?rest6
  case hi6 => (simp only [List.getElem?_toArray, List.getElem?_cons_succ, List.getElem?_cons_zero]; first | done | rfl)
  case hq6 => exact fun _ _ _ h => h
  case hy6 => (refine Or.inl ⟨by rfl, ?_⟩; intro wz hSw; go_simp; first | done | with_reducible rfl | simp | omega)
  try simp only [Act.put, List.setIfInBounds_toArray, List.set_cons_zero, List.set_cons_succ]
  refine anyT_one (i := 7) (by kernel_rfl) rfl (fun K' hK => ?_)
  go_simp
  refine hK.out _ _ (fun h => absurd rfl h) ?_
  clear hK K'
  try simp only [Act.put, List.setIfInBounds_toArray, List.set_cons_zero, List.set_cons_succ]
  refine anyT_done (by kernel_rfl) ?_ _
  go_wp2
  refine bodyPost_ret (v := .agg #[.int .i64 ((u : Int) / (g : Int)), .int .i64 ((t : Int) / (g : Int))]) (results_cell_row rfl _ _ w.heap.size _ _ (0, 0) _ rfl (heap_alloc_new w _) Try.underlying39 rfl (by kernel_rfl)) rfl ?_
  exact ⟨rfl, below_drewN ((Below.refl w.heap.size w).alloc (Nat.le_refl _) _) 1⟩
end Go.Proofs.Ythjmedbjdjkilaa

/- Rows of numbers under way, that grow by append: where they lie; what has been read of them; rows whose cells alone are told. -/
namespace Go.Proofs.Ythjmedbjdjkilaa
open Go.RowKit

/-- A row of numbers under way, in a block that S names. -/
def OwnS (S : Nat → Prop) (w : World) (B : Nat) (e : TypeId) (v : Value) (xs : List Int) : Prop := (∀ k, v.ownBlock = some k → S k) ∧ w.ownsRow B e 1 v xs.length (xs.map (Value.int .i64))
section
variable {S R : Nat → Prop} {w w' : World} {B : Nat} {e : TypeId} {v : Value} {xs : List Int}
theorem OwnS.keep (h : OwnS S w B e v xs) (hu : Upd R w w') (hS : ∀ k, S k → ¬ R k) : OwnS S w' B e v xs := by
  obtain ⟨h0, h1⟩ := h
  refine ⟨h0, h1.1, ?_⟩
  rcases h1.2 with e | ⟨g, cap, cur, rfl, hg, hc, hrest⟩
  · exact .inl e
  · exact .inr ⟨g, cap, cur, rfl, hg, (hu.block g (Array.getElem?_eq_some_iff.1 hc).1 (hS g (h0 g rfl))).trans hc, hrest⟩
theorem OwnS.none (S : Nat → Prop) (w : World) (B : Nat) (e : TypeId) : OwnS S w B e (.slice none 0 0) [] := ⟨fun k hk => by simp [Value.ownBlock] at hk, rfl, .inl ⟨rfl, rfl⟩⟩
theorem own_lt' {base n : Nat} {ys : List Value} (h : w.ownsRow base e 1 v n ys) : ∀ g, v.ownBlock = some g → g < w.heap.size := fun g hg => by
  rcases h.2 with ⟨rfl, _⟩ | ⟨g', cap, cur, rfl, _, hc, _⟩
  · simp [Value.ownBlock] at hg
  · simp [Value.ownBlock] at hg; subst hg; exact (Array.getElem?_eq_some_iff.1 hc).1
theorem OwnS.step {S' : Nat → Prop} {x : Int} {o : Obj} {v' : Value} (h : OwnS S w B e v xs) (hown : w'.ownsRow B e 1 v' (xs.length + 1) (xs.map (Value.int .i64) ++ [.int .i64 x])) (hv : v'.ownBlock = v.ownBlock ∨ v'.ownBlock = some (w.alloc o).heap.size)
    (hS : ∀ k, S k → S' k) (hS1 : w.heap.size + 1 < w'.heap.size → S' (w.heap.size + 1)) : OwnS S' w' B e v' (xs ++ [x]) :=
  ⟨fun k hk => by
    rcases hv with e | e
    · exact hS k (h.1 k (e ▸ hk))
    · have hlt := own_lt' hown k hk
      rw [e] at hk; simp at hk; subst hk; exact hS1 hlt, by rw [List.length_append, List.map_append]; exact hown⟩
end

/-- A row whose cells are told, in a block from lo up to less than hi (empty ones may lie anywhere). -/
def RowC (w : World) (lo hi : Nat) (A : Option Addr) (n : Nat) (xs : List Int) : Prop :=
  xs.length = n ∧ (0 < n → ∃ b, A = some ⟨b, 0, none⟩ ∧ lo ≤ b ∧ b < hi ∧ ∀ j, j < n → w.cell? ⟨b, j, none⟩ = some (.int .i64 (xs[j]?.getD 0)))
section
variable {w w' : World} {lo hi n : Nat} {A : Option Addr} {xs : List Int} {R : Nat → Prop}
theorem RowC.len (h : RowC w lo hi A n xs) : xs.length = n := h.1
theorem RowC.nil (w : World) (lo hi : Nat) (A : Option Addr) : RowC w lo hi A 0 [] := ⟨rfl, fun h => absurd h (by omega)⟩
theorem RowC.ints (h : RowC w lo hi A n xs) {B : Nat} (hB : hi ≤ B) : Ints w B A n xs :=
  ⟨h.1, fun hn => by
    obtain ⟨b, e, _, hb, hc⟩ := h.2 hn
    exact ⟨b, 0, e, by omega, fun j hj => by rw [Nat.zero_add]; exact hc j hj⟩⟩
theorem RowC.upd (h : RowC w lo hi A n xs) (hu : Upd R w w') (hr : ∀ j, R j → j < lo ∨ hi ≤ j) : RowC w' lo hi A n xs :=
  ⟨h.1, fun hn => by
    obtain ⟨b, e, hl, hb, hc⟩ := h.2 hn
    exact ⟨b, e, hl, hb, fun j hj => hu.cell (hc j hj) (fun hr' => by have := hr b hr'; omega)⟩⟩
theorem RowC.below {B : Nat} (h : RowC w lo hi A n xs) (hu : Below B w w') (hB : hi ≤ B) : RowC w' lo hi A n xs := h.upd (Below.toUpd hu) (fun j hj => by omega)
theorem RowC.more {lo' hi' : Nat} (h : RowC w lo hi A n xs) (h1 : lo' ≤ lo) (h2 : hi ≤ hi') : RowC w lo' hi' A n xs :=
  ⟨h.1, fun hn => by
    obtain ⟨b, e, hl, hb, hc⟩ := h.2 hn
    exact ⟨b, e, by omega, by omega, hc⟩⟩
theorem Row.told (h : Row w lo hi A n xs) : RowC w lo hi A n xs :=
  ⟨h.1, fun hn => by
    obtain ⟨b, ys, e, hl, hb, hA⟩ := h.2 hn
    exact ⟨b, e, hl, hb, fun j hj => by
      have hl := h.1
      rw [hA.cell (by rw [List.length_append]; omega), List.getElem?_append_left (by omega)]⟩⟩
/-- A grown row's cells. -/
theorem rowC_of_own {base m : Nat} {e : TypeId} {v : Value} (h : w.ownsRow base e 1 v m (xs.map (Value.int .i64))) : ∃ A c, v = .slice A m c ∧ RowC w base w.heap.size A m xs := by
  obtain ⟨A, c, rfl, hI, hA⟩ := ints_of_own_at h
  refine ⟨A, c, rfl, hI.1, fun hn => ?_⟩
  rcases h.2 with ⟨e, _⟩ | ⟨g, cap, cur, e, hg, hgc, _⟩
  · cases e; omega
  · cases e
    refine ⟨g, rfl, hg, (Array.getElem?_eq_some_iff.1 hgc).1, fun j hj => ?_⟩
    obtain ⟨b, off, e1, hb, hc⟩ := hI.2 hn
    cases e1
    have := hc j hj
    rwa [Nat.zero_add] at this
end
/-- What a function that hands back a new row of numbers does: its cells told. -/
def GivesRowC (w : World) (xs : List Int) (e : Ending) (w' : World) : Prop := ∃ A n c, e = .returned (.slice A n c) ∧ RowC w' w.heap.size w'.heap.size A n xs ∧ Below w.heap.size w w'
end Go.Proofs.Ythjmedbjdjkilaa

/- What is left, lined up: the model's count of it. -/
namespace Go.Proofs.Ythjmedbjdjkilaa
open Go.RowKit Go.Shelf
attribute [local go_sem] Oper.semAt_some
attribute [local go_sem, local simp] wide_fn

/-- As numbers. -/
def asI (l : List Nat) : List Int := l.map fun x : Nat => (x : Int)
theorem asI_len (l : List Nat) : (asI l).length = l.length := by simp [asI]
theorem asI_get {l : List Nat} {i : Nat} (hi : i < l.length) : (asI l)[i]?.getD 0 = ((l[i]?.getD 0 : Nat) : Int) := by simp [asI, hi]
theorem asI_snoc (l : List Nat) (x : Nat) : asI (l ++ [x]) = asI l ++ [(x : Int)] := by simp [asI]
/-- The items less than k of a set. -/
def leftK (s k : Nat) : List Nat := (List.range k).filter fun j => s.testBit j
theorem leftK_yes {s k : Nat} (h : s.testBit k = true) : leftK s (k + 1) = leftK s k ++ [k] := by simp [leftK, List.range_succ, h]
theorem leftK_no {s k : Nat} (h : s.testBit k = false) : leftK s (k + 1) = leftK s k := by simp [leftK, List.range_succ, h]
theorem leftK_len (s k : Nat) : (leftK s k).length ≤ k := by
  have := List.length_filter_le (fun j => s.testBit j) (List.range k)
  rwa [List.length_range] at this
theorem take_snocI (l : List Int) {k : Nat} (hk : k < l.length) : l.take (k + 1) = l.take k ++ [l[k]?.getD 0] := by
  rw [List.take_succ_eq_append_getElem hk, List.getElem?_eq_getElem hk]; rfl

theorem ind_row {zs : List Int} {l : List Nat} {i m : Nat} (hm : l.length = m) (hi : i < m) : (ind zs l)[i]?.getD 0 = rowTo (zs[l[i]?.getD 0]?.getD 0) l m := by
  subst hm
  unfold ind
  rw [List.getElem?_map, List.getElem?_eq_getElem hi]
  rfl

set_option maxRecDepth 100000 in
set_option maxHeartbeats 4000000 in
theorem srest_any (A : Option Addr) (n c : Nat) (zs : List Int) (hvo : VoP zs) (d : Nat) (w : World) (h : Ints w w.heap.size A n zs) (hd : d < 2 ^ n) :
    Calls Try.prog 76 #[.slice A n c, .int .i64 (d : Int)] w fun e w' => e = .returned (.int .i64 (cF zs (2 ^ n - 1 - d) : Int)) ∧ Below w.heap.size w w' := by
  obtain ⟨i0, hi0, hz0, hz1, hz2⟩ := info_parts infoInt
  have hlen := Lib.hid h.len
  have hn6 : n ≤ 6 := by have := hvo.1; rw [hlen.out] at this; exact this
  have hp64 := pow_le64 hn6
  have hs : 2 ^ n - 1 - d < 2 ^ n := by omega
  obtain ⟨s, hsd⟩ : ∃ s, 2 ^ n - 1 - d = s := ⟨_, rfl⟩
  rw [hsd] at hs ⊢
  have Hbit := Lib.hid (show ∀ j, j < n → s.testBit j = !d.testBit j from fun j hj => by
    have := com_bit_fin ⟨n, by omega⟩ ⟨d, by omega⟩ hd ⟨j, by omega⟩
    simp only at this
    rw [← hsd, this]; simp [hj])
  clear hsd
  have HL := Lib.hid (show leftK s n = leftL zs.length s by unfold leftK leftL; rw [hlen.out])
  have Hinc := Lib.hid (leftL_inc zs s)
  have Hres := Lib.hid (rest_is hvo (s := s) (by rw [hlen.out]; exact hs))
  have Hivo := Lib.hid (ind_vo hvo Hinc.out)
  have Hil := Lib.hid (ind_len zs (leftL zs.length s))
  go_enter Try.func76, Try.ntmps76
  go_wp2_with fail
  have h1 := own_new w 3
  have hU1 : Upd (fun _ => False) w (w.alloc (.cells #[] 3)) := (Upd.refl _ w).alloc _
  have hz1a : w.heap.size ≤ (w.alloc (.cells #[] 3)).heap.size := hU1.size
  obtain ⟨W1, hW1⟩ : ∃ W1, w.alloc (.cells #[] 3) = W1 := ⟨_, rfl⟩
  rw [hW1] at h1 hU1 hz1a ⊢
  clear hW1
  go_loopw [5, 6] (fun v i wr => ∃ k : Nat, k ≤ n ∧ i = .int .i64 k ∧ OwnS (fun k => w.heap.size ≤ k) wr w.heap.size 3 v (asI (leftK s k)) ∧ Upd (fun _ => False) w wr) (fun _ i _ => n - (intOf i).toNat)
  case atStart => exact ⟨0, by omega, rfl, ⟨fun k hk => by simp [Value.ownBlock] at hk; omega, h1⟩, hU1⟩
  case round =>
    clear hz1a hU1 h1
    obtain ⟨k, hk, rfl, hO, hU⟩ := hrel
    have zr := hU.size
    by_cases hlt : k < n
    · have hb := Hbit.out k hlt
      have hkl := leftK_len s k
      cases hdk : d.testBit k
      · have hbi : (bitI (d : Int) k == 0) = true := by unfold bitI; rw [bit_cast, hdk]; rfl
        have Hn := Lib.hid (show asI (leftK s (k + 1)) = asI (leftK s k) ++ [(k : Int)] by rw [leftK_yes (by rw [hb, hdk]; rfl), asI_snoc])
        have Hln := Lib.hid (asI_len (leftK s k))
        clear hb
        go_wp2_with (first
          | (go_at_call 75; refine (bit_any _ _ _ (by omega) (by omega) (by omega) (by omega)).mono ?_; rintro e w' ⟨rfl, rfl⟩)
          | (at_builtin; refine wpList_append1 _ rfl (.tmp 22) (.tmp 24) _ rfl w.heap.size 3 i0 _ 8 Try.underlying23 hi0 hz0 hz1 hz2 rfl _ (asI (leftK s k)).length _ rfl (hO.2.alloc _) wr.heap.size 1 (.int .i64 k) rfl (cell_new _ _ _) rfl (by rw [Hln.out]; omega) (by rw [Hln.out]; omega) (by simp; omega) ?_; rintro v' w' hown' hg' hv'))
        have zg := hg'.size
        simp at zg
        go_roundw
        case rel => exact ⟨k + 1, by omega, by go_num, by rw [Hn.out]; exact hO.step hown' hv' (fun k e => e) (fun _ => by omega), (hU.alloc _).grown hg' (fun k hk => .inl (hO.1 k hk))⟩
        case measure => simp [intOf]; omega
      · have hbi : (bitI (d : Int) k == 0) = false := by unfold bitI; rw [bit_cast, hdk]; rfl
        have Hn := Lib.hid (leftK_no (s := s) (k := k) (by rw [hb, hdk]; rfl))
        clear hb
        go_wp2_with (go_at_call 75; refine (bit_any _ _ _ (by omega) (by omega) (by omega) (by omega)).mono ?_; rintro e w' ⟨rfl, rfl⟩)
        go_roundw
        case rel => exact ⟨k + 1, by omega, by go_num, by rw [Hn.out]; exact hO, hU⟩
        case measure => simp [intOf]; omega
    · obtain rfl : k = n := by omega
      rw [HL.out] at hO
      obtain ⟨A', c', rfl, hI, -⟩ := ints_of_own_at hO.2
      have hB0 : Below w.heap.size w wr := hU.toBelow (fun _ e => e.elim) (Nat.le_refl _)
      have hA := h.to hB0 (Nat.le_refl _) zr
      obtain ⟨m, hm⟩ : ∃ m, (asI (leftL zs.length s)).length = m := ⟨_, rfl⟩
      rw [hm] at hI ⊢
      have Hm := Lib.hid (show (leftL zs.length s).length = m by rw [← hm, asI_len])
      clear hm
      have hml : m ≤ k := by have h1 := Hinc.out.len_le; have h2 := hlen.out; have h3 := Hm.out; omega
      clear hO hU
      have Hlt := Lib.hid (show ∀ i, i < m → (leftL zs.length s)[i]?.getD 0 < k from fun i hi => by have h1 := Hinc.out.at_lt (i := i) (by rw [Hm.out]; exact hi); have h2 := hlen.out; omega)
      have Hget := Lib.hid (show ∀ i, i < m → (asI (leftL zs.length s))[i]?.getD 0 = (((leftL zs.length s)[i]?.getD 0 : Nat) : Int) from fun i hi => asI_get (by rw [Hm.out]; exact hi))
      have Hind := Lib.hid (show ∀ i, i < m → (ind zs (leftL zs.length s))[i]?.getD 0 = rowTo (zs[(leftL zs.length s)[i]?.getD 0]?.getD 0) (leftL zs.length s) m from fun i hi => ind_row Hm.out hi)
      generalize hl : leftL zs.length s = l at *
      have Hl := Lib.hid hl
      clear hl
      rename World => w2
      go_wp2_with fail
      have h1 := own_new w2 3
      have hU1 : Upd (fun _ => False) w2 (w2.alloc (.cells #[] 3)) := (Upd.refl _ w2).alloc _
      obtain ⟨W1, hW1⟩ : ∃ W1, w2.alloc (.cells #[] 3) = W1 := ⟨_, rfl⟩
      rw [hW1] at h1 hU1 ⊢
      clear hW1
      go_loopw [7, 8] (fun v i wr => ∃ k : Nat, k ≤ m ∧ i = .int .i64 k ∧ OwnS (fun k => w2.heap.size ≤ k) wr w2.heap.size 3 v ((ind zs l).take k) ∧ Upd (fun _ => False) w2 wr) (fun _ i _ => m - (intOf i).toNat)
      case atStart => exact ⟨0, by omega, rfl, ⟨fun k hk => by simp [Value.ownBlock] at hk; omega, by simpa using h1⟩, hU1⟩
      case round =>
        clear hU1 h1
        obtain ⟨i, hi, rfl, hO, hU⟩ := hrel
        rename World => w3
        have zx := hU.size
        have hBx : Below w2.heap.size w2 w3 := hU.toBelow (fun _ e => e.elim) (Nat.le_refl _)
        have hAx := hA.to hBx (Nat.le_refl _) zx
        have hIx := hI.to hBx (Nat.le_refl _) zx
        by_cases hlt2 : i < m
        · have hli := Hlt.out i hlt2
          have hgi := Hget.out i hlt2
          have Hrow := Lib.hid (Hind.out i hlt2)
          generalize hx : l[i]?.getD 0 = x at *
          have Hx := Lib.hid hx
          clear hx
          have hz := hvo.bd x (by rw [hlen.out]; exact hli)
          have Htk := Lib.hid (take_snocI (ind zs l) (k := i) (by rw [Hil.out, Hm.out]; exact hlt2))
          go_wp2
          go_loopw [9, 10] (fun t i wr => ∃ j q : Nat, j ≤ m ∧ i = .int .i64 j ∧ t = .int .i64 (rowTo (zs[x]?.getD 0) l j) ∧ wr = w3.drewN q) (fun _ i _ => m - (intOf i).toNat)
          case atStart => exact ⟨0, 0, by omega, rfl, rfl, rfl⟩
          case round =>
            obtain ⟨j, q, hj, rfl, rfl, rfl⟩ := hrel
            have hrb := rowTo_bd (zs[x]?.getD 0) l j
            by_cases hlt3 : j < m
            · have hlj := Hlt.out j hlt3
              have hgj := Hget.out j hlt3
              have Hrs := Lib.hid (show rowTo (zs[x]?.getD 0) l (j + 1) = orI (rowTo (zs[x]?.getD 0) l j) (bitI (zs[x]?.getD 0) ((l[j]?.getD 0 : Nat) : Int) * powI j) from rfl)
              generalize hy : l[j]?.getD 0 = y at *
              have Hy := Lib.hid hy
              clear hy
              obtain ⟨bl, ol, rfl, -, hcl⟩ := hIx.at_ hlt2
              have hci := hcl i hlt2
              have hcj := hcl j hlt3
              rw [hgi] at hci
              rw [hgj] at hcj
              obtain ⟨bz, oz, rfl, -, hcz⟩ := hAx.at_ hli
              have hcx := hcz x hli
              clear hcl hcz hgi hgj
              have hb01 := bitI_01 (zs[x]?.getD 0) y
              have hpj := powI_le6 (n := (j : Int)) (by omega)
              have hpp := powI_pos (j : Int)
              have hp6 := powI_le6 (n := (m : Int)) (by omega)
              have hmb : 0 ≤ bitI (zs[x]?.getD 0) y * powI j ∧ bitI (zs[x]?.getD 0) y * powI j ≤ 64 := by
                rw [bitI_mul]; split <;> omega
              have hacc64 : rowTo (zs[x]?.getD 0) l j < 64 := by omega
              have hor : bits .or .i64 (rowTo (zs[x]?.getD 0) l j) (bitI (zs[x]?.getD 0) y * powI j) = orI (rowTo (zs[x]?.getD 0) l j) (bitI (zs[x]?.getD 0) y * powI j) := bits_or (by omega) (by omega) (by omega) (by omega)
              have hw : IntKind.i64.wrap (bitI (zs[x]?.getD 0) y * powI j) = bitI (zs[x]?.getD 0) y * powI j := by rw [IntKind.wrap_i64]; omega
              generalize rowTo (zs[x]?.getD 0) l j = acc at *
              have hbit := fun w => bit_any (zs[x]?.getD 0) y w (by omega) (by omega) (by omega) (by omega)
              have hpow := fun w => power_any (j : Int) w (by omega) (by omega)
              generalize bitI (zs[x]?.getD 0) y = bt at *
              generalize powI (j : Int) = pw at *
              generalize zs[x]?.getD 0 = z at *
              go_wp2
              go_quiet ((first | (go_at_call 75; exact quiet_add_left (hbit _)) | (go_at_call 77; exact quiet_add_left (hpow _))))
              go_wp2
              go_roundw
              case rel => exact ⟨j + 1, _, by omega, by go_num, by rw [Hrs.out], rfl⟩
              case measure => simp [intOf]; omega
            · obtain rfl : j = m := by omega
              have hO' : OwnS (fun k => w2.heap.size ≤ k) (w3.drewN q) w2.heap.size 3 _ ((ind zs l).take i) := hO
              have hU' : Upd (fun _ => False) w2 (w3.drewN q) := hU.drewN q
              have Hln := Lib.hid (show ((ind zs l).take i).length = i by rw [List.length_take, Hil.out, Hm.out]; omega)
              have zx' : w2.heap.size ≤ (w3.drewN q).heap.size := zx
              have Hrow2 := Lib.hid (show (ind zs l)[i]?.getD 0 = rowTo (zs[x]?.getD 0) l j from Hrow.out)
              generalize rowTo (zs[x]?.getD 0) l j = row at *
              generalize w3.drewN q = w4 at *
              go_wp2_with (at_builtin; refine wpList_append1 _ rfl (.tmp 56) (.tmp 58) _ rfl w2.heap.size 3 i0 _ 8 Try.underlying23 hi0 hz0 hz1 hz2 rfl _ ((ind zs l).take i).length _ rfl (hO'.2.alloc _) w4.heap.size 1 (.int .i64 row) rfl (cell_new _ _ _) rfl (by rw [Hln.out]; omega) (by rw [Hln.out]; omega) (by simp; omega) ?_; rintro v' w' hown' hg' hv')
              have zg := hg'.size
              simp at zg
              go_roundw
              case rel => exact ⟨i + 1, by omega, by go_num, by rw [Htk.out, Hrow2.out]; exact hO'.step hown' hv' (fun k e => e) (fun _ => by omega), (hU'.alloc _).grown hg' (fun k hk => .inl (hO'.1 k hk))⟩
              case measure => simp [intOf]; omega
        · obtain rfl : i = m := by omega
          have hO' := hO
          rw [List.take_of_length_le (by rw [Hil.out, Hm.out]; exact Nat.le_refl _)] at hO'
          obtain ⟨A2, c2, hv2, hI2, -⟩ := ints_of_own_at hO'.2
          have hLn := Lib.hid (show (ind zs l).length = i by rw [Hil.out, Hm.out])
          rw [hLn.out] at hI2 hv2
          subst hv2
          go_wp2_with fail
          refine (scountLines_any A2 i c2 (ind zs l) Hivo.out _ hI2).mono ?_
          rintro e w5 ⟨rfl, hB5⟩
          go_wp2_with fail
          go_ret
          exact ⟨ret_int (by have h1 := Hres.out; rw [Hm.out] at h1; rw [h1]), hB0.trans ((hBx.mono hB0.size).trans (hB5.mono (Nat.le_trans hB0.size hBx.size)))⟩
end Go.Proofs.Ythjmedbjdjkilaa

/- Tops and ideals: tops stand for all below; what is below a set is an ideal; what an ideal leaves. No program. -/
namespace Go.Proofs.Ythjmedbjdjkilaa

theorem bit_none {zs : List Int} {a b : Nat} (h : bitB (zs[a]?.getD 0) b = true) : a < zs.length := by
  rcases Nat.lt_or_ge a zs.length with h1 | h1
  · exact h1
  · rw [List.getElem?_eq_none (by omega), Option.getD_none, bitB_zero] at h; cases h
theorem top_over {zs : List Int} (h : VoP zs) {s : Int} (h1 : s < powI zs.length) : ∀ (m a : Nat), zs.length - rank zs a ≤ m → bitB s a = true → ∃ t : Nat, bitB (topsTo zs s zs.length) t = true ∧ (a = t ∨ lt zs a t)
  | 0, a, hm, ha => by have := rank_bd h (bitB_lt h1 ha); omega
  | m + 1, a, hm, ha => by
    by_cases hz : andI (zs[a]?.getD 0) s = 0
    · exact ⟨a, (topsTo_bit a _).2 ⟨bitB_lt h1 ha, ha, hz⟩, .inl rfl⟩
    · have : ∃ b : Nat, bitB s b = true ∧ bitB (zs[a]?.getD 0) b = true := by
        refine Classical.byContradiction fun hn => hz (andI_zero.2 fun b hb => ?_)
        cases e : bitB (zs[a]?.getD 0) b
        · rfl
        · exact absurd ⟨b, hb, e⟩ hn
      obtain ⟨b, hb, hab⟩ := this
      have hl : lt zs a b := ⟨bit_none hab, hab⟩
      have hr := rank_lt h hl
      obtain ⟨t, ht, e⟩ := top_over h h1 m b (by omega) hb
      refine ⟨t, ht, .inr ?_⟩
      rcases e with rfl | e
      · exact hl
      · exact h.trans hl e
section
variable {zs : List Int} {s : Int}
theorem tops_in (zs : List Int) (s : Int) : lessI (topsTo zs s zs.length) s = 0 := lessI_none.2 fun _ hj => ((topsTo_bit _ _).1 hj).2.1
theorem tops_ap (h : VoP zs) : apB zs (topsTo zs s zs.length) = true := by
  have hb := topsTo_bd zs s zs.length
  have hp := powI_le6 (n := (zs.length : Int)) (by have := h.1; omega)
  refine (apB_iff (by omega)).2 fun a b ha hb => ?_
  exact andI_zero.1 ((topsTo_bit _ _).1 ha).2.2 b ((topsTo_bit _ _).1 hb).2.1
theorem tops_none (h : VoP zs) (h0 : 0 ≤ s) (h1 : s < powI zs.length) : (topsTo zs s zs.length == 0) = (s == 0) := by
  have hb := topsTo_bd zs s zs.length
  rw [Bool.eq_iff_iff, beq_iff_eq, beq_iff_eq]
  constructor
  · intro e
    refine bitB_ext h0 (Int.le_refl _) fun j => ?_
    rw [bitB_zero]
    cases hj : bitB s j
    · rfl
    · obtain ⟨t, ht, _⟩ := top_over h h1 _ j (Nat.le_refl _) hj
      rw [e, bitB_zero] at ht; cases ht
  · intro e
    refine bitB_ext hb.1 (Int.le_refl _) fun j => ?_
    rw [bitB_zero]
    cases hj : bitB (topsTo zs s zs.length) j
    · rfl
    · have := ((topsTo_bit _ _).1 hj).2.1
      rw [e, bitB_zero] at this; cases this
theorem in_bel (h : Sets zs) (h1 : s < powI zs.length) : lessI s (belI zs s) = 0 := lessI_none.2 fun j hj => (belI_bit h h1 j).2 (.inl hj)
theorem bel_ideal (h : VoP zs) (h0 : 0 ≤ s) (h1 : s < powI zs.length) : idB zs (belI zs s) = true := by
  have hb := belI_bd h.sets h0 h1
  refine (idB_iff h.sets hb.1 hb.2).2 fun a b hb hz => ?_
  rw [belI_bit h.sets h1] at hb ⊢
  rcases hb with hb | ⟨c, hc, hbc⟩
  · exact .inr ⟨b, hb, hz⟩
  · exact .inr ⟨c, hc, (h.trans (a := a) (b := b) (c := c) ⟨bit_none hz, hz⟩ ⟨bit_none hbc, hbc⟩).2⟩
theorem tops_bel (h : VoP zs) (_h0 : 0 ≤ s) (h1 : s < powI zs.length) : topsTo zs (belI zs s) zs.length = topsTo zs s zs.length := by
  refine bitB_ext (topsTo_bd _ _ _).1 (topsTo_bd _ _ _).1 fun j => ?_
  rw [Bool.eq_iff_iff, topsTo_bit, topsTo_bit]
  constructor
  · rintro ⟨hj, hb, hz⟩
    have hz' := andI_zero.1 hz
    refine ⟨hj, ?_, andI_zero.2 fun b hb => hz' b ((belI_bit h.sets h1 b).2 (.inl hb))⟩
    rcases (belI_bit h.sets h1 j).1 hb with e | ⟨c, hc, hjc⟩
    · exact e
    · rw [hz' c ((belI_bit h.sets h1 c).2 (.inl hc))] at hjc; cases hjc
  · rintro ⟨hj, hb, hz⟩
    have hz' := andI_zero.1 hz
    refine ⟨hj, (belI_bit h.sets h1 j).2 (.inl hb), andI_zero.2 fun b hb => ?_⟩
    rcases (belI_bit h.sets h1 b).1 hb with e | ⟨c, hc, hbc⟩
    · exact hz' b e
    · cases e : bitB (zs[j]?.getD 0) b
      · rfl
      · have := (h.trans (a := j) (b := b) (c := c) ⟨bit_none e, e⟩ ⟨bit_none hbc, hbc⟩).2
        rw [hz' c hc] at this; cases this
theorem bel_tops (h : VoP zs) (h0 : 0 ≤ s) (h1 : s < powI zs.length) : belI zs (topsTo zs s zs.length) = belI zs s := by
  have hb := topsTo_bd zs s zs.length
  refine bitB_ext (belI_bd h.sets hb.1 hb.2).1 (belI_bd h.sets h0 h1).1 fun j => ?_
  rw [Bool.eq_iff_iff, belI_bit h.sets hb.2, belI_bit h.sets h1]
  constructor
  · rintro (e | ⟨t, ht, hj⟩)
    · exact .inl ((topsTo_bit _ _).1 e).2.1
    · exact .inr ⟨t, ((topsTo_bit _ _).1 ht).2.1, hj⟩
  · rintro (e | ⟨b, hb, hj⟩)
    · obtain ⟨t, ht, e2⟩ := top_over h h1 _ j (Nat.le_refl _) e
      rcases e2 with rfl | e2
      · exact .inl ht
      · exact .inr ⟨t, ht, e2.2⟩
    · obtain ⟨t, ht, e2⟩ := top_over h h1 _ b (Nat.le_refl _) hb
      rcases e2 with rfl | e2
      · exact .inr ⟨b, ht, hj⟩
      · exact .inr ⟨t, ht, (h.trans (a := j) (b := b) (c := t) ⟨bit_none hj, hj⟩ e2).2⟩
theorem bel_self (h0 : idB zs s = true) : belI zs s = s := by simpa [idB] using h0
theorem all_bits' {n : Nat} : ∀ j : Nat, bitB (powI n - 1) j = decide (j < n) := fun j => by
  have e : (powI (n : Int) - 1).toNat = 2 ^ n - 1 := by
    have : powI (n : Int) = ((2 ^ n : Nat) : Int) := by simp [powI]
    omega
  simp [bitB, e, Nat.testBit_two_pow_sub_one]
theorem left_fin : ∀ n : Fin 7, ∀ k : Fin 64, (k.val : Int) < powI (n.val : Int) → lessI (powI (n.val : Int) - 1) (k.val : Int) = powI (n.val : Int) - 1 - (k.val : Int) := by decide +kernel
theorem left_is {n : Nat} {s : Int} (hn : n ≤ 6) (h0 : 0 ≤ s) (h1 : s < powI n) : lessI (powI n - 1) s = powI n - 1 - s := by
  have hpn := powI_le6 (n := (n : Int)) (by omega)
  obtain ⟨k, rfl⟩ := Int.eq_ofNat_of_zero_le h0
  exact left_fin ⟨n, by omega⟩ ⟨k, by omega⟩ h1
theorem left_ideal (h : VoP zs) (h0 : 0 ≤ s) (h1 : s < powI zs.length) (hi : idB zs s = true) : idB (du zs) (powI zs.length - 1 - s) = true := by
  have hp := powI_pos (zs.length : Int)
  refine (idB_iff (du_sets h.sets) (by omega) (by rw [du_len]; omega)).2 fun a b hb hz => ?_
  rw [← left_is h.1 h0 h1] at hb ⊢
  rw [bitB_less, all_bits', Bool.and_eq_true] at hb ⊢
  rw [du_bit h.sets] at hz
  have ha : a < zs.length := bitB_lt (h.sets.2 b (bit_none hz)).2 hz
  refine ⟨by simpa using ha, ?_⟩
  cases e : bitB s a
  · rfl
  · have := (idB_iff h.sets h0 h1).1 hi b a e hz
    rw [this] at hb; simp at hb
theorem tops_apart (h : VoP zs) (h0 : 0 ≤ s) (h1 : s < powI zs.length) (ha : apB zs s = true) : topsTo zs s zs.length = s := by
  have hp := powI_le6 (n := (zs.length : Int)) (by have := h.1; omega)
  refine bitB_ext (topsTo_bd zs s _).1 h0 fun j => ?_
  have key := topsTo_bit (zs := zs) (s := s) j zs.length
  cases e : bitB s j
  · cases e2 : bitB (topsTo zs s zs.length) j
    · rfl
    · have := (key.1 e2).2.1; rw [e] at this; cases this
  · exact key.2 ⟨bitB_lt h1 e, e, andI_zero.2 fun b hb => (apB_iff (by omega)).1 ha j b e hb⟩
/-- The tops of the next ideal are the lowest items that the one ahead lacks. -/
theorem next_tops (h : VoP zs) (_h0 : 0 ≤ s) (_h1 : s < powI zs.length) : topsTo zs (nextI zs s) zs.length = topsTo (du zs) (powI zs.length - 1 - s) zs.length := by
  have hp := powI_pos (zs.length : Int)
  have hp6 := powI_le6 (n := (zs.length : Int)) (by have := h.1; omega)
  have hb := topsTo_bd (du zs) (powI zs.length - 1 - s) zs.length
  have ha := tops_ap (s := powI zs.length - 1 - s) (du_vo h)
  rw [du_len, du_apB h.sets (by omega)] at ha
  unfold nextI
  rw [tops_bel h hb.1 hb.2, tops_apart h hb.1 hb.2 ha]
end
theorem in_set {zs : List Int} {s : Int} (_h : VoP zs) (h0 : 0 ≤ s) (h1 : s < powI zs.length) : inB s 0 (powI zs.length - 1) = true := by
  simp only [inB, decide_eq_true_eq]; omega
theorem set_parts {zs : List Int} {s : Int} (h : (vo zs && inB s 0 (powI zs.length - 1)) = true) : VoP zs ∧ 0 ≤ s ∧ s < powI zs.length := by
  rw [Bool.and_eq_true] at h
  refine ⟨by simpa [vo] using h.1, ?_⟩
  have := h.2
  simp only [inB, decide_eq_true_eq] at this
  omega
theorem topsR_in {zs : List Int} {s : Int} (h : VoP zs) (h0 : 0 ≤ s) (h1 : s < powI zs.length) : topsR zs s = topsTo zs s zs.length := by
  unfold topsR; rw [vo_true h, in_set h h0 h1]; rfl
theorem belowR_in {zs : List Int} {s : Int} (h : VoP zs) (h0 : 0 ≤ s) (h1 : s < powI zs.length) : belowR zs s = belI zs s := by
  unfold belowR; rw [vo_true h, in_set h h0 h1]; rfl
theorem isIdealR_in {zs : List Int} {s : Int} (h : VoP zs) (h0 : 0 ≤ s) (h1 : s < powI zs.length) : isIdealR zs s = idB zs s := by
  unfold isIdealR; rw [vo_true h, in_set h h0 h1]; rfl
end Go.Proofs.Ythjmedbjdjkilaa

/- What the own laws of lines ask of the mathematics, put together. No program. -/
namespace Go.Proofs.Ythjmedbjdjkilaa

theorem next_some {zs : List Int} (h : VoP zs) {s : Nat} (hs : s < 2 ^ zs.length) (h0 : s ≠ 0) : nextL zs s ≠ [] := by
  intro e
  have hn6 := h.1
  have hp64 := pow_le64 hn6
  have hpi : powI (zs.length : Int) = ((2 ^ zs.length : Nat) : Int) := by simp [powI]
  have hd := du_vo h
  have ht := tops_none (zs := du zs) (s := (s : Int)) hd (by omega) (by rw [du_len, hpi]; omega)
  rw [du_len] at ht
  have hT := topsTo_bd (du zs) (s : Int) zs.length
  have hz : topsTo (du zs) (s : Int) zs.length = 0 := by
    refine bitB_ext hT.1 (Int.le_refl _) fun j => ?_
    rw [bitB_zero]
    cases hb : bitB (topsTo (du zs) (s : Int) zs.length) j
    · rfl
    · have hj := bitB_lt hT.2 hb
      have : j ∈ nextL zs s := by
        rw [nextL_is h, List.mem_filter, List.mem_range]
        refine ⟨hj, ?_⟩
        rw [topsTo_bit] at hb
        obtain ⟨_, b1, b2⟩ := hb
        rw [bit_cast] at b1
        unfold eF
        rw [b1, b2]; rfl
      rw [e] at this; cases this
  rw [hz] at ht
  have h1 : ((s : Int) == 0) = false := by simpa using h0
  rw [h1] at ht
  cases ht
theorem cF_ge1 {zs : List Int} (h : VoP zs) : ∀ (k s : Nat), s ≤ k → s < 2 ^ zs.length → 1 ≤ cF zs s
  | 0, s, hk, _ => by
    obtain rfl : s = 0 := by omega
    rw [cF_zero]; exact Nat.le_refl _
  | k + 1, s, hk, hs => by
    by_cases h0 : s = 0
    · subst h0; rw [cF_zero]; exact Nat.le_refl _
    · rw [← accF_all h h0]
      have hne := next_some h hs h0
      unfold accF
      cases hL : nextL zs s with
      | nil => exact absurd hL hne
      | cons x l =>
        have hlt := sub_lt (a := x) h0
        have ih := cF_ge1 h k (s - 2 ^ x) (by omega) (by omega)
        rw [List.map_cons, List.sum_cons]
        omega
theorem lines_facts {zs : List Int} (h : VoP zs) : ∃ F : Nat, 1 ≤ F ∧ F ≤ 46656 ∧ linesR zs = (F : Int) ∧ linesR (du zs) = (F : Int) ∧ hasAt zs ((F : Int) - 1) = true ∧ hasAt zs (F : Int) = false := by
  have hp := Nat.two_pow_pos zs.length
  have hv : vo zs = true := by simpa [vo] using h
  have hv2 : vo (du zs) = true := by simpa [vo] using du_vo h
  have hF := cF_le h (s := 2 ^ zs.length - 1) (by omega)
  have h1 := cF_ge1 h _ (2 ^ zs.length - 1) (Nat.le_refl _) (by omega)
  have h2 := count_du h
  have h3 := count_both h
  have h4 := count_both (du_vo h)
  rw [du_len] at h4
  obtain ⟨F, hFF⟩ : ∃ F, cF zs (2 ^ zs.length - 1) = F := ⟨_, rfl⟩
  rw [hFF] at hF h1 h2 h3
  refine ⟨F, h1, hF, ?_, ?_, ?_, ?_⟩
  · unfold linesR; rw [hv, if_pos rfl, h3]
  · unfold linesR; rw [hv2, if_pos rfl, du_len, h4, h2]
  · unfold hasAt; rw [hv, hFF, decide_eq_true (show (0 : Int) ≤ (F : Int) - 1 by omega), decide_eq_true (show (F : Int) - 1 < (F : Int) by omega)]; rfl
  · unfold hasAt; rw [hFF, decide_eq_false (show ¬ (F : Int) < (F : Int) by omega)]; simp
theorem atR_few (zs : List Int) (r : Int) : (atR zs r).length ≤ 6 := by
  unfold atR
  cases hh : hasAt zs r
  · simp
  · unfold hasAt at hh
    rw [Bool.and_eq_true] at hh
    have hvo : VoP zs := by simpa [vo] using hh.1
    have := hvo.1
    rw [if_pos rfl, atL_len]; omega
theorem at_facts {zs : List Int} {r : Int} (hh : hasAt zs r = true) : isLineR zs (atR zs r) = true ∧ rankR zs (atR zs r) = r := by
  have hA : atR zs r = atL zs r.toNat zs.length := by unfold atR; rw [hh]; rfl
  unfold hasAt at hh
  rw [Bool.and_eq_true, Bool.and_eq_true, decide_eq_true_eq, decide_eq_true_eq] at hh
  have hvo : VoP zs := by simpa [vo] using hh.1
  obtain ⟨h1, h2⟩ := rank_at hvo (r := r.toNat) (by omega)
  have hI : isLineR zs (atR zs r) = true := by unfold isLineR; rw [hA, hh.1, h1]; rfl
  refine ⟨hI, ?_⟩
  unfold rankR
  rw [hI, if_pos rfl, hA, atL_len, h2]
  omega
theorem rank_facts {zs ls : List Int} (h : isLineR zs ls = true) : ∃ Q F : Nat, Q < F ∧ F ≤ 46656 ∧ rankR zs ls = (Q : Int) ∧ linesR zs = (F : Int) ∧ hasAt zs (Q : Int) = true ∧ atR zs (Q : Int) = ls ∧ ls.length ≤ 6 := by
  have h' := h
  unfold isLineR at h
  rw [Bool.and_eq_true] at h
  have hvo : VoP zs := by simpa [vo] using h.1
  have hp := Nat.two_pow_pos zs.length
  have hF := cF_le hvo (s := 2 ^ zs.length - 1) (by omega)
  obtain ⟨h1, h2⟩ := at_rank hvo h.2
  have hlen := (line_steps h.2).1
  have hn6 := hvo.1
  have hH : hasAt zs (rkUp zs ls zs.length : Int) = true := by
    unfold hasAt; rw [h.1, decide_eq_true (show (0 : Int) ≤ (rkUp zs ls zs.length : Int) by omega), decide_eq_true (show (rkUp zs ls zs.length : Int) < (cF zs (2 ^ zs.length - 1) : Int) by omega)]; rfl
  refine ⟨rkUp zs ls zs.length, cF zs (2 ^ zs.length - 1), h1, hF, ?_, ?_, hH, ?_, by omega⟩
  · unfold rankR; rw [h', if_pos rfl, hlen]
  · unfold linesR; rw [h.1, if_pos rfl, count_both hvo]
  · unfold atR; rw [hH, if_pos rfl, Int.toNat_natCast]; exact h2
theorem back_fact {zs ls : List Int} (h : isLineR zs ls = true) : isLineR (du zs) ls.reverse = true := by
  unfold isLineR at h ⊢
  rw [Bool.and_eq_true] at h
  have hvo : VoP zs := by simpa [vo] using h.1
  rw [line_back hvo h.2, show vo (du zs) = true by simpa [vo] using du_vo hvo]; rfl
theorem dual_fact {zs ls : List Int} (h : isLineR zs ls = true) : dualR zs = du zs := by
  unfold isLineR at h
  rw [Bool.and_eq_true] at h
  unfold dualR
  rw [h.1]; rfl
end Go.Proofs.Ythjmedbjdjkilaa

/- FirstChance: the model's. -/
namespace Go.Proofs.Ythjmedbjdjkilaa
open Go.RowKit Go.Shelf

/-- The answer: whether there is one; in how many lines a is ahead of b, of how many. -/
def fcOk (zs : List Int) (a b : Int) : Bool := vo zs && (inB a 0 ((zs.length : Int) - 1) && (inB b 0 ((zs.length : Int) - 1) && !(a == b)))
def fcV (zs : List Int) (a b : Int) : Value := if fcOk zs a b then
    fracV (fcN zs a.toNat b.toNat / Nat.gcd (fcN zs a.toNat b.toNat) (cF zs (2 ^ zs.length - 1))) (cF zs (2 ^ zs.length - 1) / Nat.gcd (fcN zs a.toNat b.toNat) (cF zs (2 ^ zs.length - 1)))
  else fracV 0 0
/-- One set's lines. -/
def fcT (zs : List Int) (a b s : Nat) : Nat := if mB zs a b s then cG zs s * cF zs (2 ^ zs.length - 1 - (s + 2 ^ a)) else 0
def fcTo (zs : List Int) (a b k : Nat) : Nat := ((List.range k).map (fcT zs a b)).sum
theorem fcTo_succ (zs : List Int) (a b k : Nat) : fcTo zs a b (k + 1) = fcTo zs a b k + fcT zs a b k := by
  unfold fcTo; rw [List.range_succ, List.map_append, List.sum_append]; simp
theorem fcTo_full (zs : List Int) (a b : Nat) : fcTo zs a b (2 ^ zs.length) = fcN zs a b := rfl
theorem sum_mono {f : Nat → Nat} : ∀ d k : Nat, ((List.range k).map f).sum ≤ ((List.range (k + d)).map f).sum
  | 0, _ => Nat.le_refl _
  | d + 1, k => by
    have := sum_mono (f := f) d k
    rw [← Nat.add_assoc, List.range_succ, List.map_append, List.sum_append]
    omega
theorem fcN_le {zs : List Int} (h : VoP zs) {a b : Nat} (ha : a < zs.length) (hb : b < zs.length) (hab : a ≠ b) : fcN zs a b ≤ 46656 := by
  by_cases hq : qB zs b a
  · rw [fc_none h hq]; omega
  · rw [fc_put h ha hb hab hq]
    have hp := Nat.two_pow_pos zs.length
    have := cF_le (putA_vo h ha hb hab hq) (s := 2 ^ zs.length - 1) (by rw [putA_len]; omega)
    exact this
theorem fcTo_le {zs : List Int} (h : VoP zs) {a b k : Nat} (ha : a < zs.length) (hb : b < zs.length) (hab : a ≠ b) (hk : k ≤ 2 ^ zs.length) : fcTo zs a b k ≤ 46656 := by
  have h1 := fcN_le h ha hb hab
  have h2 := sum_mono (f := fcT zs a b) (2 ^ zs.length - k) k
  rw [show k + (2 ^ zs.length - k) = 2 ^ zs.length by omega] at h2
  exact Nat.le_trans h2 h1
theorem row2_set {W : World} {g : Nat} {t : TypeId} {x y p q : Value} (h : W.heap[g]? = some (.cells #[x, y] t (0, 0))) : ((W.setCell ⟨g, 0, none⟩ p).setCell ⟨g, 1, none⟩ q).heap[g]? = some (.cells #[p, q] t (0, 0)) := by
  simp [World.setCell, Array.getElem?_modify, h]
def GivesFc (w : World) (zs : List Int) (a b : Int) (e : Ending) (w' : World) : Prop := e = .returned (.tuple #[fcV zs a b, .bool (fcOk zs a b)]) ∧ Below w.heap.size w w'
theorem fcV_no {zs : List Int} {a b : Int} (h : fcOk zs a b = false) : fcV zs a b = .agg #[.int .i64 0, .int .i64 0] := by unfold fcV; rw [h]; rfl

set_option maxRecDepth 100000 in
set_option maxHeartbeats 3000000 in
theorem specFirstChanceF_any (A : Option Addr) (n c : Nat) (zs : List Int) (a b : Int) (w : World) (h : Ints w w.heap.size A n zs) (hbig : n ≤ 1152921504606846976) :
    Calls Try.prog 35 #[.slice A n c, .int .i64 a, .int .i64 b] w (GivesFc w zs a b) := by
  have hlen := Lib.hid h.len
  have hb0 : (w.alloc (.cells #[.int .i64 0, .int .i64 0] 39)).heap[w.heap.size]? = some (.cells #[.int .i64 0, .int .i64 0] 39 (0, 0)) := heap_alloc_new w _
  have hU0 : Upd (fun _ => False) w (w.alloc (.cells #[.int .i64 0, .int .i64 0] 39)) := (Upd.refl _ w).alloc _
  have hB0 : Below w.heap.size w (w.alloc (.cells #[.int .i64 0, .int .i64 0] 39)) := hU0.toBelow (fun _ e => e.elim) (Nat.le_refl _)
  have hz0 : (w.alloc (.cells #[.int .i64 0, .int .i64 0] 39)).heap.size = w.heap.size + 1 := by simp
  have h1 := h.to hB0 (Nat.le_refl _) (C := (w.alloc (.cells #[.int .i64 0, .int .i64 0] 39)).heap.size) (by omega)
  cases hok : fcOk zs a b
  · have Hv := Lib.hid (fcV_no hok)
    have Hok := Lib.hid hok
    cases hv : vo zs
    · have HV := Lib.hid hv
      clear hv hok
      go_enter Try.func35, Try.ntmps35
      go_wp2_with fail
      refine (validOrder_any _ _ _ _ zs _ h1 hbig).mono ?_
      rw [HV.out]
      rintro e w' ⟨rfl, m, rfl⟩
      go_wp2_with fail
      refine bodyPost_ret (v := .tuple #[.agg #[.int .i64 0, .int .i64 0], .bool false]) (results_cell_row2 rfl _ _ w.heap.size _ _ (0, 0) _ _ rfl rfl (row2_set (show ((w.alloc (.cells #[.int .i64 0, .int .i64 0] 39)).drewN m).heap[w.heap.size]? = _ from hb0)) Try.underlying39 rfl (by kernel_rfl)) rfl ?_
      exact ⟨by rw [Hv.out, Hok.out], (((hU0.drewN m).setCell (p := ⟨w.heap.size, 0, none⟩) (.inl (Nat.le_refl _)) _).setCell (p := ⟨w.heap.size, 1, none⟩) (.inl (Nat.le_refl _)) _).toBelow (fun _ e => e.elim) (Nat.le_refl _)⟩

    · have HV := Lib.hid hv
      unfold fcOk at hok
      rw [hv, Bool.true_and, hlen.out] at hok
      clear hv
      cases ha : inB a 0 ((n : Int) - 1)
      · have Ha := Lib.hid ha
        clear ha hok
        go_enter Try.func35, Try.ntmps35
        go_wp2_with fail
        refine (validOrder_any _ _ _ _ zs _ h1 hbig).mono ?_
        rw [HV.out]
        rintro e w' ⟨rfl, m, rfl⟩
        go_wp2_with fail
        refine (inRange_any _ _ _ _).mono ?_
        rw [Ha.out]
        rintro e w' ⟨rfl, rfl⟩
        go_wp2_with fail
        refine bodyPost_ret (v := .tuple #[.agg #[.int .i64 0, .int .i64 0], .bool false]) (results_cell_row2 rfl _ _ w.heap.size _ _ (0, 0) _ _ rfl rfl (row2_set (show ((w.alloc (.cells #[.int .i64 0, .int .i64 0] 39)).drewN m).heap[w.heap.size]? = _ from hb0)) Try.underlying39 rfl (by kernel_rfl)) rfl ?_
        exact ⟨by rw [Hv.out, Hok.out], (((hU0.drewN m).setCell (p := ⟨w.heap.size, 0, none⟩) (.inl (Nat.le_refl _)) _).setCell (p := ⟨w.heap.size, 1, none⟩) (.inl (Nat.le_refl _)) _).toBelow (fun _ e => e.elim) (Nat.le_refl _)⟩

      · rw [ha, Bool.true_and] at hok
        have Ha := Lib.hid ha
        clear ha
        cases hb : inB b 0 ((n : Int) - 1)
        · have Hb := Lib.hid hb
          clear hb hok
          go_enter Try.func35, Try.ntmps35
          go_wp2_with fail
          refine (validOrder_any _ _ _ _ zs _ h1 hbig).mono ?_
          rw [HV.out]
          rintro e w' ⟨rfl, m, rfl⟩
          go_wp2_with fail
          refine (inRange_any _ _ _ _).mono ?_
          rw [Ha.out]
          rintro e w' ⟨rfl, rfl⟩
          go_wp2_with fail
          refine (inRange_any _ _ _ _).mono ?_
          rw [Hb.out]
          rintro e w' ⟨rfl, rfl⟩
          go_wp2_with fail
          refine bodyPost_ret (v := .tuple #[.agg #[.int .i64 0, .int .i64 0], .bool false]) (results_cell_row2 rfl _ _ w.heap.size _ _ (0, 0) _ _ rfl rfl (row2_set (show ((w.alloc (.cells #[.int .i64 0, .int .i64 0] 39)).drewN m).heap[w.heap.size]? = _ from hb0)) Try.underlying39 rfl (by kernel_rfl)) rfl ?_
          exact ⟨by rw [Hv.out, Hok.out], (((hU0.drewN m).setCell (p := ⟨w.heap.size, 0, none⟩) (.inl (Nat.le_refl _)) _).setCell (p := ⟨w.heap.size, 1, none⟩) (.inl (Nat.le_refl _)) _).toBelow (fun _ e => e.elim) (Nat.le_refl _)⟩

        · rw [hb, Bool.true_and] at hok
          have hab : a = b := by simpa using hok
          have hbe : (a == b) = true := by simpa using hab
          have Hb := Lib.hid hb
          clear hb hok hab
          go_enter Try.func35, Try.ntmps35
          go_wp2_with fail
          refine (validOrder_any _ _ _ _ zs _ h1 hbig).mono ?_
          rw [HV.out]
          rintro e w' ⟨rfl, m, rfl⟩
          go_wp2_with fail
          refine (inRange_any _ _ _ _).mono ?_
          rw [Ha.out]
          rintro e w' ⟨rfl, rfl⟩
          go_wp2_with fail
          refine (inRange_any _ _ _ _).mono ?_
          rw [Hb.out]
          rintro e w' ⟨rfl, rfl⟩
          go_wp2_with fail
          refine bodyPost_ret (v := .tuple #[.agg #[.int .i64 0, .int .i64 0], .bool false]) (results_cell_row2 rfl _ _ w.heap.size _ _ (0, 0) _ _ rfl rfl (row2_set (show ((w.alloc (.cells #[.int .i64 0, .int .i64 0] 39)).drewN m).heap[w.heap.size]? = _ from hb0)) Try.underlying39 rfl (by kernel_rfl)) rfl ?_
          exact ⟨by rw [Hv.out, Hok.out], (((hU0.drewN m).setCell (p := ⟨w.heap.size, 0, none⟩) (.inl (Nat.le_refl _)) _).setCell (p := ⟨w.heap.size, 1, none⟩) (.inl (Nat.le_refl _)) _).toBelow (fun _ e => e.elim) (Nat.le_refl _)⟩

  · have Hok := Lib.hid hok
    have hok2 := hok
    unfold fcOk at hok2
    rw [Bool.and_eq_true, Bool.and_eq_true, Bool.and_eq_true, hlen.out] at hok2
    obtain ⟨hv, ha, hb, hab⟩ := hok2
    have hvo : VoP zs := by simpa [vo] using hv
    have HV := Lib.hid hv
    have Ha := Lib.hid ha
    have Hb := Lib.hid hb
    simp only [inB, decide_eq_true_eq] at ha hb
    obtain ⟨x, rfl⟩ := Int.eq_ofNat_of_zero_le ha.1
    obtain ⟨y, rfl⟩ := Int.eq_ofNat_of_zero_le hb.1
    have hxn : x < n := by omega
    have hyn : y < n := by omega
    have hxy : x ≠ y := fun e => by subst e; simp at hab
    have hxe : ((x : Int) == (y : Int)) = false := by simp; omega
    have hn6 : n ≤ 6 := by have := hvo.1; rw [hlen.out] at this; exact this
    have hp64 := pow_le64 hn6
    have Hfc := Lib.hid (fun k (hk : k ≤ 2 ^ n) => fcTo_le hvo (a := x) (b := y) (k := k) (by rw [hlen.out]; exact hxn) (by rw [hlen.out]; exact hyn) hxy (by rw [hlen.out]; exact hk))
    have hVal := Lib.hid (show fcV zs x y = fracV (fcN zs x y / Nat.gcd (fcN zs x y) (cF zs (2 ^ n - 1))) (cF zs (2 ^ n - 1) / Nat.gcd (fcN zs x y) (cF zs (2 ^ n - 1))) by unfold fcV; rw [hok, hlen.out]; rfl)
    have Hfull := Lib.hid (show fcTo zs x y (2 ^ n) = fcN zs x y by rw [← hlen.out]; rfl)
    have Hdu := Lib.hid (show downP n (pairsL zs) = du zs by unfold du; rw [hlen.out])
    have hds := du_sets hvo.sets
    have Hdl := Lib.hid (show (du zs).length = n by rw [du_len, hlen.out])
    clear hok hv ha hb hab
    have hlin := fun (w' : World) (q : Nat) (hA : Arr w' q 3 (du zs)) => linesFrom_any (some ⟨q, 0, none⟩) n n w'.heap.size zs hvo hlen.out w' (hA.ints' hA.lt Hdl.out) (Nat.le_refl _)
    have hrst := fun (w' : World) (d : Nat) (hd : d < 2 ^ n) (hI : Ints w' w'.heap.size A n zs) => srest_any A n c zs hvo d w' hI hd
    have HpI := Lib.hid (show powI (n : Int) = ((2 ^ n : Nat) : Int) by simp [powI])
    have Htab := Lib.hid (fun k (hk : k < 2 ^ n) => (show (tab zs (2 ^ n) 0)[k]?.getD 0 = (cG zs k : Int) by rw [tab_get (by rw [hlen.out]; exact hk), if_pos hk]))
    have Htl := Lib.hid (show (tab zs (2 ^ n) 0).length = 2 ^ n by rw [tab_len, hlen.out])
    have Hadd := Lib.hid (fun k (hk : k < 2 ^ n) (hb : k.testBit x = false) => add_lt hn6 hk hxn hb)
    have Hfct := Lib.hid (fun k => (show fcT zs x y k = if mB zs x y k then cG zs k * cF zs (2 ^ n - 1 - (k + 2 ^ x)) else 0 by unfold fcT; rw [hlen.out]))
    have Hcnt := Lib.hid (count_both hvo)
    have HcF := Lib.hid (show 1 ≤ cF zs (2 ^ n - 1) ∧ cF zs (2 ^ n - 1) ≤ 46656 by
      have hp := Nat.two_pow_pos n
      exact ⟨cF_ge1 hvo _ _ (Nat.le_refl _) (by rw [hlen.out]; omega), cF_le hvo (by rw [hlen.out]; omega)⟩)
    have hscl := fun (w' : World) (hI : Ints w' w'.heap.size A n zs) => scountLines_any A n c zs hvo w' hI
    rw [hlen.out] at Hcnt
    rw [Hcnt.out] at hscl
    have hpos := Nat.two_pow_pos n
    obtain ⟨N, hN⟩ : ∃ N, 2 ^ n = N := ⟨_, rfl⟩
    rw [hN] at hp64 HpI Htl HcF Hfull hVal hscl hpos
    simp only [hN] at Hfc hlin hrst Htab Hadd Hfct
    have HN := Lib.hid hN
    have hpw : ∀ w' : World, Calls Try.prog 77 #[.int .i64 (n : Int)] w' fun e w'' => e = .returned (.int .i64 (N : Int)) ∧ w' = w'' := fun w' => by
      rw [← HpI.out]; exact power_any _ _ (by omega) (by omega)
    clear hN Hcnt
    go_enter Try.func35, Try.ntmps35
    go_wp2_with fail
    refine (validOrder_any _ _ _ _ zs _ h1 hbig).mono ?_
    rw [HV.out]
    rintro e w' ⟨rfl, m, rfl⟩
    have hbF : ((w.alloc (.cells #[.int .i64 0, .int .i64 0] 39)).drewN m).heap[w.heap.size]? = some (.cells #[.int .i64 0, .int .i64 0] 39 (0, 0)) := hb0
    have hU1 : Upd (fun _ => False) w ((w.alloc (.cells #[.int .i64 0, .int .i64 0] 39)).drewN m) := hU0.drewN m
    have hz1 : ((w.alloc (.cells #[.int .i64 0, .int .i64 0] 39)).drewN m).heap.size = w.heap.size + 1 := hz0
    have i1 : Ints ((w.alloc (.cells #[.int .i64 0, .int .i64 0] 39)).drewN m) ((w.alloc (.cells #[.int .i64 0, .int .i64 0] 39)).drewN m).heap.size A n zs := h1
    obtain ⟨W1, hW1⟩ : ∃ W1, (w.alloc (.cells #[.int .i64 0, .int .i64 0] 39)).drewN m = W1 := ⟨_, rfl⟩
    rw [hW1] at hbF hU1 hz1 i1 ⊢
    have hzl : w.heap.size < W1.heap.size := by omega
    clear hW1 h1 hz0 hB0 hU0 hb0 hz1
    go_wp2_with fail
    refine (inRange_any _ _ _ _).mono ?_
    rw [Ha.out]
    rintro e w' ⟨rfl, rfl⟩
    go_wp2_with fail
    refine (inRange_any _ _ _ _).mono ?_
    rw [Hb.out]
    rintro e w' ⟨rfl, rfl⟩
    go_wp2_with fail
    refine (downOf_any A n c zs W1 i1 hvo.sets).mono ?_
    rintro e w2 ⟨rfl, hA2, hB2⟩
    rw [Hdu.out] at hA2
    have z2 := hB2.size
    have hl2 := hA2.lt
    have i2 := i1.to hB2 (Nat.le_refl _) z2
    have hU2 := hU1.below hB2 (fun k h1 h2 => by omega)
    have hb2 := (hB2.block w.heap.size (by omega)).trans hbF
    go_wp2_with fail
    refine (hlin w2 _ hA2).mono ?_
    rintro e w3 ⟨rfl, hT3, hB3⟩
    have z3 := hB3.size
    have hl3 := hT3.lt
    have i3 := i2.to hB3 (Nat.le_refl _) z3
    have hU3 := hU2.below hB3 (fun k h1 h2 => by omega)
    have hA3 := hA2.below hB3 hl2
    have hb3 := (hB3.block w.heap.size (by omega)).trans hb2
    clear hA2 hb2 i2 hU2 i1 hbF hU1 hB2 hB3
    generalize W1.heap.size = qd at *
    generalize w2.heap.size = qt at *
    go_wp2_with fail
    go_loopw [8, 11] (fun v i wr => ∃ k : Nat, k ≤ N ∧ i = .int .i64 k ∧ v = .int .i64 (fcTo zs x y k : Int) ∧ Upd (fun _ => False) w3 wr) (fun _ i _ => N - (intOf i).toNat)
    case atStart => exact ⟨0, by omega, rfl, rfl, Upd.refl _ _⟩
    case round =>
      obtain ⟨k, hk, rfl, rfl, hU⟩ := hrel
      rename World => w5
      have hdx := hds.bd x (by rw [Hdl.out]; exact hxn)
      have z5 := hU.size
      have d5 := hA3.upd hU (fun e => e)
      have t5 := hT3.upd hU (fun e => e)
      have hfk := Hfc.out k hk
      by_cases hlt : k < N
      · have hklt : (k : Int) < (N : Int) := by omega
        have hk64 : k < 64 := by omega
        have Hs := Lib.hid (fcTo_succ zs x y k)
        have hfk1 := Hfc.out (k + 1) hlt
        have hless : bits .andNot .i64 ((du zs)[x]?.getD 0) (k : Int) = lessI ((du zs)[x]?.getD 0) (k : Int) := bits_less (by omega) (by omega) (by omega) (by omega)
        have hcd := d5.cell (k := x) (by rw [Hdl.out]; exact hxn)
        have hct := t5.cell (k := k) (by rw [Htl.out]; exact hlt)
        rw [Htab.out k hlt] at hct
        have i5 := i3.to (hU.toBelow (B := w3.heap.size) (fun _ e => e.elim) (Nat.le_refl _)) (Nat.le_refl _) z5
        have hfct := Hfct.out k
        cases hkx : k.testBit x
        · have hbx : (bitI (k : Int) (x : Int) == 0) = true := by unfold bitI; rw [bit_cast, hkx]; rfl
          cases hky : k.testBit y
          · have hby : (bitI (k : Int) (y : Int) == 0) = true := by unfold bitI; rw [bit_cast, hky]; rfl
            cases hle : (lessI ((du zs)[x]?.getD 0) (k : Int) == 0)
            · have H0 := Lib.hid (show fcT zs x y k = 0 by rw [hfct]; unfold mB; rw [hle]; simp)
              clear hfct hfk1
              go_wp2_with (first
                          | (go_at_call 77; refine (hpw _).mono ?_; rintro e w' ⟨rfl, rfl⟩)
                          | (go_at_call 75; refine (bit_any _ _ _ (by omega) (by omega) (by omega) (by omega)).mono ?_; rintro e w' ⟨rfl, rfl⟩))
              go_roundw
              case rel => exact ⟨k + 1, by omega, by go_num, by rw [Hs.out, H0.out, Nat.add_zero], hU⟩
              case measure => simp [intOf]; omega

            · have hmb : mB zs x y k = true := by unfold mB; rw [hkx, hky, hle]; rfl
              rw [hmb, if_pos rfl] at hfct
              by_cases hg0 : cG zs k = 0
              · have H0 := Lib.hid (show fcT zs x y k = 0 by rw [hfct, hg0, Nat.zero_mul])
                rw [hg0] at hct
                clear hfct hfk1
                go_wp2_with (first
                            | (go_at_call 77; refine (hpw _).mono ?_; rintro e w' ⟨rfl, rfl⟩)
                            | (go_at_call 75; refine (bit_any _ _ _ (by omega) (by omega) (by omega) (by omega)).mono ?_; rintro e w' ⟨rfl, rfl⟩))
                go_roundw
                case rel => exact ⟨k + 1, by omega, by go_num, by rw [Hs.out, H0.out, Nat.add_zero], hU⟩
                case measure => simp [intOf]; omega

              · have hadd := Hadd.out k hlt hkx
                have Hor := Lib.hid ((bits_or (a := (k : Int)) (b := powI x) (by omega) (by omega) (Int.le_of_lt (powI_pos _)) (by have := powI_le6 (n := (x : Int)) (by omega); omega)).trans (or_is hk64 (show x < 6 by omega) hkx))
                obtain ⟨g, hg⟩ : ∃ g, cG zs k = g := ⟨_, rfl⟩
                obtain ⟨hh, hhh⟩ : ∃ hh, cF zs (N - 1 - (k + 2 ^ x)) = hh := ⟨_, rfl⟩
                obtain ⟨F0, hF0⟩ : ∃ F0, fcTo zs x y k = F0 := ⟨_, rfl⟩
                rw [hg] at hct hg0 hfct
                rw [hhh] at hfct
                have Hft := Lib.hid hfct
                have Hs2 := Lib.hid (show fcTo zs x y (k + 1) = F0 + g * hh by rw [Hs.out, hfct, hF0])
                rw [hF0]
                rw [hF0] at hfk
                rw [hF0] at Hs
                clear hfct hg hF0 hky hmb
                have hcg : (0 : Int) < (g : Int) := by omega
                have hgp : 0 < g := by omega
                have hfk2 : F0 + g * hh ≤ 46656 := by rw [Hs2.out] at hfk1; exact hfk1
                have hgh : IntKind.i64.wrap ((g : Int) * (hh : Int)) = ((g * hh : Nat) : Int) := by rw [Int.natCast_mul, IntKind.wrap_i64]; have : ((g : Int) * (hh : Int)) = ((g * hh : Nat) : Int) := (Int.natCast_mul _ _).symm; omega
                have hfs : IntKind.i64.wrap ((F0 : Int) + ((g * hh : Nat) : Int)) = ((F0 + g * hh : Nat) : Int) := by rw [IntKind.wrap_i64]; omega
                go_wp2_with (first
                            | (go_at_call 77; refine (hpw _).mono ?_; rintro e w' ⟨rfl, rfl⟩)
                            | (go_at_call 75; refine (bit_any _ _ _ (by omega) (by omega) (by omega) (by omega)).mono ?_; rintro e w' ⟨rfl, rfl⟩))
                refine region_T (S := (fun w' => w'.cell? ⟨qt, k, none⟩ = some (.int .i64 (g : Int)))) 13 (by kernel_rfl) ?_
                have hS0 : (fun w' => w'.cell? ⟨qt, k, none⟩ = some (.int .i64 (g : Int))) w5.drew := hct
                have i5d : Ints w5.drew w5.drew.heap.size A n zs := i5
                refine anyT_take (i := 0) (oi := ?oi0) (v := .int .i64 (F0 : Int)) ?hi0 (by kernel_rfl) ?hq0 ?hy0 (by assumption) ?rest0
                case hi0 => (simp only [List.getElem?_toArray, List.getElem?_cons_zero]; first | done | rfl)
                case hq0 => exact fun _ _ _ h => h
                case hy0 => (refine Or.inl ⟨by rfl, ?_⟩; intro wz hSw; go_simp; first | done | with_reducible rfl | simp | omega)
                try simp only [Act.put, List.setIfInBounds_toArray, List.set_cons_zero, List.set_cons_succ]
                refine anyT_take (i := 1) (oi := ?oi1) (v := .slice (some ⟨qt, 0, none⟩) N N) ?hi1 (by kernel_rfl) ?hq1 ?hy1 (by assumption) ?rest1
                case hi1 => (simp only [List.getElem?_toArray, List.getElem?_cons_succ, List.getElem?_cons_zero]; first | done | rfl)
                case hq1 => exact fun _ _ _ h => h
                case hy1 => (refine Or.inl ⟨by rfl, ?_⟩; intro wz hSw; go_simp; first | done | with_reducible rfl | simp | omega)
                try simp only [Act.put, List.setIfInBounds_toArray, List.set_cons_zero, List.set_cons_succ]
                refine anyT_take (i := 2) (oi := ?oi2) (v := .int .i64 (k : Int)) ?hi2 (by kernel_rfl) ?hq2 ?hy2 (by assumption) ?rest2
                case hi2 => (simp only [List.getElem?_toArray, List.getElem?_cons_succ, List.getElem?_cons_zero]; first | done | rfl)
                case hq2 => exact fun _ _ _ h => h
                case hy2 => (refine Or.inl ⟨by rfl, ?_⟩; intro wz hSw; go_simp; first | done | with_reducible rfl | simp | omega)
                try simp only [Act.put, List.setIfInBounds_toArray, List.set_cons_zero, List.set_cons_succ]
                refine anyT_take (i := 3) (oi := ?oi3) (v := .pointer (some ⟨qt, k, none⟩)) ?hi3 (by kernel_rfl) ?hq3 ?hy3 (by assumption) ?rest3
                case hi3 => (simp only [List.getElem?_toArray, List.getElem?_cons_succ, List.getElem?_cons_zero]; first | done | rfl)
                case hq3 => exact fun _ _ _ h => h
                case hy3 => (refine Or.inl ⟨by rfl, ?_⟩; intro wz hSw; go_simp; first | done | with_reducible rfl | simp | omega)
                try simp only [Act.put, List.setIfInBounds_toArray, List.set_cons_zero, List.set_cons_succ]
                refine anyT_take (i := 4) (oi := ?oi4) (v := .int .i64 (g : Int)) ?hi4 (by kernel_rfl) ?hq4 ?hy4 (by assumption) ?rest4
                case hi4 => (simp only [List.getElem?_toArray, List.getElem?_cons_succ, List.getElem?_cons_zero]; first | done | rfl)
                case hq4 => exact fun _ _ _ h => h
                case hy4 => (refine Or.inl ⟨by rfl, ?_⟩; intro wz hSw; go_simp; first | done | with_reducible rfl | simp | omega)
                try simp only [Act.put, List.setIfInBounds_toArray, List.set_cons_zero, List.set_cons_succ]
                refine anyT_take (i := 5) (oi := ?oi5) (v := .slice A n c) ?hi5 (by kernel_rfl) ?hq5 ?hy5 (by assumption) ?rest5
                case hi5 => (simp only [List.getElem?_toArray, List.getElem?_cons_succ, List.getElem?_cons_zero]; first | done | rfl)
                case hq5 => exact fun _ _ _ h => h
                case hy5 => (refine Or.inl ⟨by rfl, ?_⟩; intro wz hSw; go_simp; first | done | with_reducible rfl | simp | omega)
                try simp only [Act.put, List.setIfInBounds_toArray, List.set_cons_zero, List.set_cons_succ]
                refine anyT_take (i := 6) (oi := ?oi6) (v := .int .i64 (k : Int)) ?hi6 (by kernel_rfl) ?hq6 ?hy6 (by assumption) ?rest6
                case hi6 => (simp only [List.getElem?_toArray, List.getElem?_cons_succ, List.getElem?_cons_zero]; first | done | rfl)
                case hq6 => exact fun _ _ _ h => h
                case hy6 => (refine Or.inl ⟨by rfl, ?_⟩; intro wz hSw; go_simp; first | done | with_reducible rfl | simp | omega)
                try simp only [Act.put, List.setIfInBounds_toArray, List.set_cons_zero, List.set_cons_succ]
                refine anyT_take (i := 7) (oi := ?oi7) (v := .int .i64 (x : Int)) ?hi7 (by kernel_rfl) ?hq7 ?hy7 (by assumption) ?rest7
                case hi7 => (simp only [List.getElem?_toArray, List.getElem?_cons_succ, List.getElem?_cons_zero]; first | done | rfl)
                case hq7 => exact fun _ _ _ h => h
                case hy7 => (refine Or.inl ⟨by rfl, ?_⟩; intro wz hSw; go_simp; first | done | with_reducible rfl | simp | omega)
                try simp only [Act.put, List.setIfInBounds_toArray, List.set_cons_zero, List.set_cons_succ]
                refine anyT_one (i := 8) (by kernel_rfl) rfl (fun K' hK => ?_)
                go_simp
                refine (power_any (x : Int) _ (by omega) (by omega)).mono ?_
                rintro e w' ⟨rfl, rfl⟩
                refine hK.out _ _ (fun _ => hS0) ?_
                clear hK K'
                try simp only [Act.put, List.setIfInBounds_toArray, List.set_cons_zero, List.set_cons_succ]
                refine anyT_take (i := 9) (oi := ?oi9) (v := .int .i64 ((k + 2 ^ x : Nat) : Int)) ?hi9 (by kernel_rfl) ?hq9 ?hy9 (by assumption) ?rest9
                case hi9 => (simp only [List.getElem?_toArray, List.getElem?_cons_succ, List.getElem?_cons_zero]; first | done | rfl)
                case hq9 => exact fun _ _ _ h => h
                case hy9 => (refine Or.inl ⟨by rfl, ?_⟩; intro wz hSw; go_simp; first | done | exact Hor.out | (rw [Hor.out]; done) | simp [Hor.out])
                try simp only [Act.put, List.setIfInBounds_toArray, List.set_cons_zero, List.set_cons_succ]
                refine anyT_one (i := 10) (by kernel_rfl) rfl (fun K' hK => ?_)
                go_simp
                refine (hrst _ (k + 2 ^ x) hadd i5d).mono ?_
                rw [hhh]
                rintro e w7 ⟨rfl, hB7⟩
                have hS7 : (fun w' => w'.cell? ⟨qt, k, none⟩ = some (.int .i64 (g : Int))) w7 := (World.cell?_of_block (hB7.block qt (by show qt < w5.heap.size; omega))).trans hS0
                refine hK.out _ _ (fun _ => hS7) ?_
                clear hS0
                have hS0 := hS7
                clear hK K'
                try simp only [Act.put, List.setIfInBounds_toArray, List.set_cons_zero, List.set_cons_succ]
                refine anyT_take (i := 11) (oi := ?oi11) (v := .int .i64 ((g * hh : Nat) : Int)) ?hi11 (by kernel_rfl) ?hq11 ?hy11 (by assumption) ?rest11
                case hi11 => (simp only [List.getElem?_toArray, List.getElem?_cons_succ, List.getElem?_cons_zero]; first | done | rfl)
                case hq11 => exact fun _ _ _ h => h
                case hy11 => (refine Or.inl ⟨by rfl, ?_⟩; intro wz hSw; go_simp; first | done | exact hgh | (rw [hgh]; done) | simp [hgh])
                try simp only [Act.put, List.setIfInBounds_toArray, List.set_cons_zero, List.set_cons_succ]
                refine anyT_take (i := 12) (oi := ?oi12) (v := .int .i64 ((F0 + g * hh : Nat) : Int)) ?hi12 (by kernel_rfl) ?hq12 ?hy12 (by assumption) ?rest12
                case hi12 => (simp only [List.getElem?_toArray, List.getElem?_cons_succ, List.getElem?_cons_zero]; first | done | rfl)
                case hq12 => exact fun _ _ _ h => h
                case hy12 => (refine Or.inl ⟨by rfl, ?_⟩; intro wz hSw; go_simp; first | done | exact hfs | (rw [hfs]; done) | simp [hfs])
                try simp only [Act.put, List.setIfInBounds_toArray, List.set_cons_zero, List.set_cons_succ]
                refine anyT_one (i := 13) (by kernel_rfl) rfl (fun K' hK => ?_)
                go_simp
                refine hK.out _ _ (fun h => absurd rfl h) ?_
                clear hK K'
                try simp only [Act.put, List.setIfInBounds_toArray, List.set_cons_zero, List.set_cons_succ]
                refine anyT_done (by kernel_rfl) ?_ _
                have hU7 : Upd (fun _ => False) w3 w7 := hU.drew.below hB7 (fun i h1 h2 => by have : w5.drew.heap.size = w5.heap.size := rfl; omega)
                go_wp2_with fail
                go_roundw
                case rel => exact ⟨k + 1, by omega, by go_num, by rw [Hs.out, Hft.out, Int.natCast_add, Int.natCast_mul], hU7⟩
                case measure => simp [intOf]; omega

          · have hby : (bitI (k : Int) (y : Int) == 0) = false := by unfold bitI; rw [bit_cast, hky]; rfl
            have H0 := Lib.hid (show fcT zs x y k = 0 by rw [hfct]; unfold mB; rw [hky]; simp)
            clear hfct hfk1
            go_wp2_with (first
                        | (go_at_call 77; refine (hpw _).mono ?_; rintro e w' ⟨rfl, rfl⟩)
                        | (go_at_call 75; refine (bit_any _ _ _ (by omega) (by omega) (by omega) (by omega)).mono ?_; rintro e w' ⟨rfl, rfl⟩))
            go_roundw
            case rel => exact ⟨k + 1, by omega, by go_num, by rw [Hs.out, H0.out, Nat.add_zero], hU⟩
            case measure => simp [intOf]; omega

        · have hbx : (bitI (k : Int) (x : Int) == 0) = false := by unfold bitI; rw [bit_cast, hkx]; rfl
          have H0 := Lib.hid (show fcT zs x y k = 0 by rw [hfct]; unfold mB; rw [hkx]; simp)
          clear hfct hfk1
          go_wp2_with (first
                      | (go_at_call 77; refine (hpw _).mono ?_; rintro e w' ⟨rfl, rfl⟩)
                      | (go_at_call 75; refine (bit_any _ _ _ (by omega) (by omega) (by omega) (by omega)).mono ?_; rintro e w' ⟨rfl, rfl⟩))
          go_roundw
          case rel => exact ⟨k + 1, by omega, by go_num, by rw [Hs.out, H0.out, Nat.add_zero], hU⟩
          case measure => simp [intOf]; omega

      · obtain rfl : k = N := by omega
        have hnk : ¬ (k : Int) < (k : Int) := by omega
        have hb5 := (hU.block w.heap.size (by omega) (fun e => e)).trans hb3
        have i5 := i3.to (hU.toBelow (B := w3.heap.size) (fun _ e => e.elim) (Nat.le_refl _)) (Nat.le_refl _) z5
        have hU5 : Upd (fun _ => False) w w5 := hU3.trans' hU (fun i hi e => e)
        rw [Hfull.out] at hfk ⊢
        have Hfr := Lib.hid (fun w' => frac_any (fcN zs x y) (cF zs (k - 1)) w' (by omega) (by have := HcF.out; omega) HcF.out.1)
        generalize fcN zs x y = u at *
        generalize cF zs (k - 1) = tt at *
        clear hdx d5 t5 hT3 hA3 hb3 i3 hU3
        go_wp2_with (go_at_call 77; refine (hpw _).mono ?_; rintro e w' ⟨rfl, rfl⟩)
        refine (hscl w5 i5).mono ?_
        rintro e w6 ⟨rfl, hB6⟩
        have z6 := hB6.size
        have hb6 := (hB6.block w.heap.size (by omega)).trans hb5
        have hU6 := hU5.below hB6 (fun i h1 h2 => by omega)
        go_wp2_with fail
        refine (Hfr.out w6).mono ?_
        rintro e w7 ⟨rfl, hB7⟩
        have hb7 := (hB7.block w.heap.size (by omega)).trans hb6
        have hU7 := hU6.below hB7 (fun i h1 h2 => by omega)
        generalize u / Nat.gcd u tt = p1 at *
        generalize tt / Nat.gcd u tt = p2 at *
        unfold fracV at *
        have hcA : w7.cell? ⟨w.heap.size, 0, none⟩ = some (.int .i64 0) := by rw [cell_of_row _ _ 0 _ _ (0, 0) hb7]; rfl
        have hcB : w7.cell? ⟨w.heap.size, 1, none⟩ = some (.int .i64 0) := by rw [cell_of_row _ _ 1 _ _ (0, 0) hb7]; rfl
        have hfA : w7.frozen? ⟨w.heap.size, 0, none⟩ = false := frozen_of_row _ _ 0 _ _ hb7
        have hfB : w7.frozen? ⟨w.heap.size, 1, none⟩ = false := frozen_of_row _ _ 1 _ _ hb7
        go_wp2_with fail
        refine bodyPost_ret (v := .tuple #[.agg #[.int .i64 (p1 : Int), .int .i64 (p2 : Int)], .bool true]) (results_cell_row2 rfl _ _ w.heap.size _ _ (0, 0) _ _ rfl rfl (row2_set hb7) Try.underlying39 rfl (by kernel_rfl)) rfl ?_
        exact ⟨by rw [hVal.out, Hok.out], ((hU7.setCell (p := ⟨w.heap.size, 0, none⟩) (.inl (Nat.le_refl _)) _).setCell (p := ⟨w.heap.size, 1, none⟩) (.inl (Nat.le_refl _)) _).toBelow (fun _ e => e.elim) (Nat.le_refl _)⟩
end Go.Proofs.Ythjmedbjdjkilaa

/- Rows that grew by append: their block has spare cells behind; marking them. -/
namespace Go.Proofs.Ythjmedbjdjkilaa
open Go.RowKit

/-- A row at the head of a block of numbers' cells, in a block from lo up to less than hi (empty ones may lie anywhere). -/
def RowV (w : World) (lo hi : Nat) (A : Option Addr) (n : Nat) (xs : List Int) : Prop :=
  xs.length = n ∧ (0 < n → ∃ b cur, A = some ⟨b, 0, none⟩ ∧ lo ≤ b ∧ b < hi ∧ w.heap[b]? = some (.cells cur 3 (0, 0)) ∧ cur.toList.take n = xs.map (Value.int .i64))
section
variable {w w' : World} {lo hi n : Nat} {A : Option Addr} {xs : List Int} {R : Nat → Prop}
theorem RowV.len (h : RowV w lo hi A n xs) : xs.length = n := h.1
theorem RowV.nil (w : World) (lo hi : Nat) (A : Option Addr) : RowV w lo hi A 0 [] := ⟨rfl, fun h => absurd h (by omega)⟩
theorem RowV.upd (h : RowV w lo hi A n xs) (hu : Upd R w w') (hr : ∀ j, R j → j < lo ∨ hi ≤ j) : RowV w' lo hi A n xs :=
  ⟨h.1, fun hn => by
    obtain ⟨b, cur, e, hl, hb, hc, ht⟩ := h.2 hn
    exact ⟨b, cur, e, hl, hb, (hu.block b (Array.getElem?_eq_some_iff.1 hc).1 (fun hr' => by have := hr b hr'; omega)).trans hc, ht⟩⟩
theorem RowV.below {B : Nat} (h : RowV w lo hi A n xs) (hu : Below B w w') (hB : hi ≤ B) : RowV w' lo hi A n xs := h.upd (Below.toUpd hu) (fun j hj => by omega)
theorem RowV.more {lo' hi' : Nat} (h : RowV w lo hi A n xs) (h1 : lo' ≤ lo) (h2 : hi ≤ hi') : RowV w lo' hi' A n xs :=
  ⟨h.1, fun hn => by
    obtain ⟨b, cur, e, hl, hb, hc⟩ := h.2 hn
    exact ⟨b, cur, e, by omega, by omega, hc⟩⟩
theorem take_at {cur : Array Value} {n j : Nat} {ys : List Value} (h : cur.toList.take n = ys) (hj : j < n) : cur[j]? = ys[j]? := by
  rw [← h, List.getElem?_take, if_pos hj, Array.getElem?_toList]
theorem RowV.told (h : RowV w lo hi A n xs) : RowC w lo hi A n xs :=
  ⟨h.1, fun hn => by
    obtain ⟨b, cur, e, hl, hb, hc, ht⟩ := h.2 hn
    refine ⟨b, e, hl, hb, fun j hj => ?_⟩
    have hj2 : j < xs.length := by rw [h.1]; exact hj
    rw [cell_of_row w b j _ _ (0, 0) hc, take_at ht hj, List.getElem?_map, List.getElem?_eq_getElem hj2]
    simp⟩
theorem RowV.ints (h : RowV w lo hi A n xs) {B : Nat} (hB : hi ≤ B) : Ints w B A n xs := h.told.ints hB
theorem rowV_of_own {base m : Nat} {v : Value} (h : w.ownsRow base 3 1 v m (xs.map (Value.int .i64))) : ∃ A c, v = .slice A m c ∧ RowV w base w.heap.size A m xs := by
  have hl : xs.length = m := by simpa using h.1
  rcases h.2 with ⟨rfl, rfl⟩ | ⟨g, cap, cur, rfl, hg, hc, _, _, _, ht⟩
  · obtain rfl : xs = [] := List.eq_nil_of_length_eq_zero hl
    exact ⟨none, 0, rfl, RowV.nil _ _ _ _⟩
  · exact ⟨_, cap, rfl, hl, fun _ => ⟨g, cur, rfl, hg, (Array.getElem?_eq_some_iff.1 hc).1, hc, by simpa using ht⟩⟩
end

set_option maxHeartbeats 1000000 in
theorem markIntS_cells (b n c : Nat) (zs : List Int) (cur : Array Value) (k : Int) (w : World) (hA : w.heap[b]? = some (.cells cur 3 (0, 0))) (ht : cur.toList.take n = zs.map (Value.int .i64)) (hn : zs.length = n) (hbig : n ≤ 1048576) (hk0 : 0 ≤ k) (hk1 : k ≤ 1152921504606846976) :
    Calls Try.prog 43 #[.slice (some ⟨b, 0, none⟩) n c, .int .i64 k] w fun e w' => e = .returned (.int .i64 (k + n)) ∧ (∃ cur' : Array Value, w'.heap[b]? = some (.cells cur' 3 (0, 0)) ∧ cur'.toList.take n = (counted k n).map (Value.int .i64)) ∧ w.grownBy w' (some b) := by
  have hlen := Lib.hid hn
  clear hn
  go_enter Try.func43, Try.ntmps43
  go_wp2
  go_loopw [1, 5] (fun v i wr => ∃ j : Nat, j ≤ n ∧ i = .int .i64 j ∧ v = .int .i64 (k + j) ∧ (∃ cur' : Array Value, wr.heap[b]? = some (.cells cur' 3 (0, 0)) ∧ cur'.toList.take n = (markedTo zs k j).map (Value.int .i64)) ∧ w.grownBy wr (some b)) (fun _ i _ => n - (intOf i).toNat)
  case atStart => exact ⟨0, by omega, rfl, by go_num, ⟨cur, hA, ht⟩, World.grownBy.refl w _⟩
  case round =>
    obtain ⟨j, hj, rfl, rfl, ⟨cur', hc, hm⟩, hG⟩ := hrel
    rename World => wx
    by_cases hlt : j < n
    · have hl2 := markedTo_len (zs := zs) (k := k) (i := j) (by rw [hlen.out]; exact hj)
      have hcs : wx.cell? ⟨b, j, none⟩ = some (.int .i64 ((markedTo zs k j)[j]?.getD 0)) := by
        rw [cell_of_row _ b j _ _ (0, 0) hc, take_at hm hlt, List.getElem?_map, List.getElem?_eq_getElem (by rw [hl2, hlen.out]; exact hlt)]
        simp
      have hfs := frozen_of_row _ b j _ _ hc
      have Hms := Lib.hid (markedTo_succ (zs := zs) (k := k) (i := j) (by rw [hlen.out]; exact hlt))
      have Hm := Lib.hid hm
      clear hl2 hm
      go_wp2
      go_roundw
      case rel =>
        refine ⟨j + 1, by omega, by go_num, by rw [Int.natCast_add, ← Int.add_assoc]; rfl, ⟨cur'.setIfInBounds j (.int .i64 (k + (j : Int))), by simp [World.setCell, Array.getElem?_modify, hc], ?_⟩, only_setCell hG (.inl rfl) _⟩
        rw [Array.toList_setIfInBounds, List.take_set, Hm.out, ← List.map_set, Hms.out]
      case measure => simp [intOf]; omega
    · obtain rfl : j = n := by omega
      go_wp2
      go_ret
      refine ⟨rfl, ⟨cur', hc, ?_⟩, hG⟩
      rw [hm, markedTo, List.drop_eq_nil_of_le (by rw [hlen.out]; exact Nat.le_refl _), List.append_nil]

theorem markIntS_rowV (A : Option Addr) (n c lo hi : Nat) (xs : List Int) (k : Int) (w : World) (h : RowV w lo hi A n xs) (hbig : n ≤ 1048576) (hk0 : 0 ≤ k) (hk1 : k ≤ 1152921504606846976) :
    Calls Try.prog 43 #[.slice A n c, .int .i64 k] w fun e w' => e = .returned (.int .i64 (k + n)) ∧ RowV w' lo hi A n (counted k n) ∧ Upd (fun j => lo ≤ j ∧ j < hi) w w' := by
  by_cases hn : 0 < n
  · obtain ⟨b, cur, rfl, hl, hb, hA, ht⟩ := h.2 hn
    refine (markIntS_cells b n c xs cur k w hA ht h.1 hbig hk0 hk1).mono ?_
    rintro e w' ⟨rfl, ⟨cur', hA', ht'⟩, hg⟩
    exact ⟨rfl, ⟨by simp [counted], fun _ => ⟨b, cur', rfl, hl, hb, hA', ht'⟩⟩, (Upd.refl _ _).grown hg (fun j e => by cases e; exact .inr ⟨hl, hb⟩)⟩
  · obtain rfl : n = 0 := by omega
    refine (markIntS_nil A c k w).mono ?_
    rintro e w' ⟨rfl, rfl⟩
    exact ⟨ret_int (by simp), by simpa [counted] using RowV.nil _ lo hi A, Upd.refl _ _⟩
/-- What a function that hands back a new row of numbers does. -/
def GivesRowV (w : World) (xs : List Int) (e : Ending) (w' : World) : Prop := ∃ A n c, e = .returned (.slice A n c) ∧ RowV w' w.heap.size w'.heap.size A n xs ∧ Below w.heap.size w w'
/-- What a function that hands back a new row and whether there is one does. -/
def GivesAtV (w : World) (xs : List Int) (t : Bool) (e : Ending) (w' : World) : Prop := ∃ A n c, e = .returned (.tuple #[.slice A n c, .bool t]) ∧ RowV w' w.heap.size w'.heap.size A n xs ∧ Below w.heap.size w w'
theorem RowV.set0 {w : World} {lo hi n : Nat} {A : Option Addr} {xs : List Int} (h : RowV w lo hi A n xs) {b : Nat} (hA : A = some ⟨b, 0, none⟩) (v : Int) : RowV (w.setCell ⟨b, 0, none⟩ (.int .i64 v)) lo hi A n (xs.set 0 v) :=
  ⟨by rw [List.length_set]; exact h.1, fun hn => by
    obtain ⟨b', cur, e, hl, hb, hc, ht⟩ := h.2 hn
    rw [hA] at e
    cases e
    exact ⟨b, cur.setIfInBounds 0 (.int .i64 v), hA, hl, hb, by simp [World.setCell, Array.getElem?_modify, hc], by rw [Array.toList_setIfInBounds, List.take_set, ht, ← List.map_set]⟩⟩
theorem RowV.cell {w : World} {lo hi n : Nat} {A : Option Addr} {xs : List Int} (h : RowV w lo hi A n xs) (hn : 0 < n) : ∃ b, A = some ⟨b, 0, none⟩ ∧ lo ≤ b ∧ b < hi ∧ (∀ j, w.frozen? ⟨b, j, none⟩ = false) ∧ ∀ j, j < n → w.cell? ⟨b, j, none⟩ = some (.int .i64 (xs[j]?.getD 0)) := by
  obtain ⟨b, cur, e, hl, hb, hc, ht⟩ := h.2 hn
  obtain ⟨b', e', _, _, hcell⟩ := h.told.2 hn
  rw [e] at e'
  cases e'
  exact ⟨b, e, hl, hb, fun j => frozen_of_row _ _ j _ _ hc, hcell⟩
end Go.Proofs.Ythjmedbjdjkilaa

/- FirstChance: the program's. -/
namespace Go.Proofs.Ythjmedbjdjkilaa
open Go.RowKit Go.Shelf

/-- The numbers d stand at the head of block b's cells. -/
def Cel (w : World) (b : Nat) (t : TypeId) (n : Nat) (d : List Int) : Prop := d.length = n ∧ ∃ cur : Array Value, w.heap[b]? = some (.cells cur t (0, 0)) ∧ cur.toList.take n = d.map (Value.int .i64)
section
variable {w w' : World} {b n : Nat} {t : TypeId} {d : List Int} {R : Nat → Prop}
theorem Cel.lt (h : Cel w b t n d) : b < w.heap.size := by
  obtain ⟨_, cur, hc, _⟩ := h
  exact (Array.getElem?_eq_some_iff.1 hc).1
theorem Cel.cell (h : Cel w b t n d) {k : Nat} (hk : k < n) : w.cell? ⟨b, k, none⟩ = some (.int .i64 (d[k]?.getD 0)) := by
  obtain ⟨hl, cur, hc, ht⟩ := h
  rw [cell_of_row w b k _ t (0, 0) hc, take_at ht hk, List.getElem?_map, List.getElem?_eq_getElem (by omega)]
  simp
theorem Cel.frozen (h : Cel w b t n d) (k : Nat) : w.frozen? ⟨b, k, none⟩ = false := by
  obtain ⟨_, cur, hc, _⟩ := h
  exact frozen_of_row _ _ k _ _ hc
theorem Cel.upd (h : Cel w b t n d) (hu : Upd R w w') (hr : ¬ R b) : Cel w' b t n d := by
  have hl := h.lt
  obtain ⟨h1, cur, hc, ht⟩ := h
  exact ⟨h1, cur, (hu.block b hl hr).trans hc, ht⟩
theorem Cel.set (h : Cel w b t n d) (k : Nat) (v : Int) : Cel (w.setCell ⟨b, k, none⟩ (.int .i64 v)) b t n (d.set k v) := by
  obtain ⟨h1, cur, hc, ht⟩ := h
  exact ⟨by simpa using h1, cur.setIfInBounds k (.int .i64 v), by simp [World.setCell, Array.getElem?_modify, hc], by rw [Array.toList_setIfInBounds, List.take_set, ht, ← List.map_set]⟩
theorem Cel.drew (h : Cel w b t n d) : Cel w.drew b t n d := h
theorem Cel.ints (h : Cel w b t n d) {B : Nat} (hB : b < B) : Ints w B (some ⟨b, 0, none⟩) n d :=
  ⟨h.1, fun _ => ⟨b, 0, rfl, hB, fun j hj => by rw [Nat.zero_add]; exact h.cell hj⟩⟩
end
set_option maxHeartbeats 2000000 in
theorem addWhatFollowsC_any (b n c : Nat) (d : List Int) (w : World) (hA : Cel w b 65 n d) (hf : Fit n d) (hn : n ≤ 6) :
    Calls Try.prog 116 #[.slice (some ⟨b, 0, none⟩) n c] w fun e w' => (∃ v, e = .returned v) ∧ Cel w' b 65 n (folTo n d n) ∧ Upd (fun k => k = b) w w' := by
  go_enter Try.func116, Try.ntmps116
  go_wp2
  go_loopw [6] (fun i wr => ∃ a : Nat, a ≤ n ∧ i = .int .i64 a ∧ Cel wr b 65 n (folTo n d a) ∧ Upd (fun k => k = b) w wr) (fun i _ => n - (intOf i).toNat)
  case atStart => exact ⟨0, by omega, rfl, hA, Upd.refl _ _⟩
  case round =>
    obtain ⟨a, ha, rfl, hAr, hU⟩ := hrel
    by_cases hak : a < n
    · have hF := folTo_fit hf a
      generalize hD0 : folTo n d a = d0 at *
      have HD0 := Lib.hid hD0
      clear hD0
      go_wp2
      go_loopw [11] (fun i wr => ∃ l : Nat, l ≤ n ∧ i = .int .i64 l ∧ Cel wr b 65 n (folIn a d0 l) ∧ Upd (fun k => k = b) w wr) (fun i _ => n - (intOf i).toNat)
      case atStart => exact ⟨0, by omega, rfl, hAr, hU⟩
      case round =>
        clear hAr hU
        obtain ⟨l, hl, rfl, hAr, hU⟩ := hrel
        by_cases hlk : l < n
        · have hFi := folIn_fit (m := a) hF l
          have Hs := Lib.hid (folIn_succ a d0 l)
          generalize hD : folIn a d0 l = D at *
          have HD := Lib.hid hD
          clear hD
          have hpn := powI_le6 (n := (n : Int)) (by omega)
          have hl1 := hFi.2 l
          have ha1 := hFi.2 a
          have hcl := hAr.cell hlk
          have hca := hAr.cell hak
          have hfl := hAr.frozen l
          cases hbit : bitB (D[l]?.getD 0) a
          · have Hb := Lib.hid hbit
            clear hbit
            go_wp2_with (go_at_call 111; refine (has_any _ _ _ (by omega) (by omega) (by omega) (by omega)).mono ?_; rw [Hb.out]; rintro e w' ⟨rfl, rfl⟩)
            go_roundw
            case rel => exact ⟨l + 1, by omega, by go_num, by rw [Hs.out, fol1, Hb.out]; exact hAr, hU⟩
            case measure => simp [intOf]; omega
          · have Hb := Lib.hid hbit
            clear hbit
            have hor : bits .or .i64 (D[l]?.getD 0) (D[a]?.getD 0) = orI (D[l]?.getD 0) (D[a]?.getD 0) := bits_or (by omega) (by omega) (by omega) (by omega)
            go_wp2_with (go_at_call 111; refine (has_any _ _ _ (by omega) (by omega) (by omega) (by omega)).mono ?_; rw [Hb.out]; rintro e w' ⟨rfl, rfl⟩)
            go_region
            all_goals
              go_wp2
              go_roundw
              case rel => exact ⟨l + 1, by omega, by go_num, by rw [Hs.out, fol1, Hb.out]; exact hAr.set _ _, (hU.setCell (p := ⟨b, l, none⟩) (.inr rfl) _).drewN _⟩
              case measure => simp [intOf]; omega
        · obtain rfl : l = n := by omega
          have Hs := Lib.hid (folTo_succ l d a)
          go_wp2
          go_roundw
          case rel => exact ⟨a + 1, by omega, by go_num, by rw [Hs.out, HD0.out]; exact hAr, hU⟩
          case measure => simp [intOf]; omega
    · obtain rfl : a = n := by omega
      go_wp2
      (try simp only [Exit.inBlock, Exit.then])
      refine bodyPost_end (results_none rfl _ _ _) rfl ?_
      exact ⟨⟨_, rfl⟩, hAr, hU⟩

section
variable {P : Program} (w : World)
theorem wpList_appendN {ops : Array Oper} {rest : List Oper} {o : Oper} {a : Act} {Q : Exit → Act → World → Prop} (hgd : o.guard = none) (s x : Operand) (t : TypeId)
    (ho : o.op = .call { callee := .builtin .append, args := #[s, x], argTypes := #[t, t] })
    (base : Nat) (e : TypeId) (i : TypeInfo) (z : Value) (bytes : Nat) (ht : P.underlying t = some (.slice e)) (hi : P.info? e = some i) (hz : i.zero = some z)
    (hsize : i.size = 1) (hby : i.bytes = bytes) (hzs : z.cells.size = 1)
    (v : Value) (n : Nat) (xs : List Value) (hs : a.eval s = v) (hown : w.ownsRow base e 1 v n xs)
    (ad : Addr) (m c : Nat) (news : List Value) (hx : a.eval x = .slice (some ad) m c) (hl : news.length = m) (hnews : ∀ j u, news[j]? = some u → w.cell? (ad.add j) = some u) (h1 : ∀ u ∈ news, u.oneCell' = true)
    (h63 : n + m ≤ maxLen) (hbytes : (n + m) * bytes ≤ 140737488355328) (hbase : base ≤ w.heap.size)
    (h : ∀ v' w', w'.ownsRow base e 1 v' (n + m) (xs ++ news) → w.grownBy w' v.ownBlock → wpList P ops Q rest (a.put o.dst v') w') : wpList P ops Q (o :: rest) a w := by
  obtain ⟨v', w', hrun, h2, h3, _, _⟩ := run_append_own_at (P := P) w base t o.type e i z 1 bytes ht hi hz hsize hby hzs (by omega) v n xs hown ad m c news (by omega) hnews h1 h63 hbytes hbase
  refine wpList_plain hgd fun K hK => ?_
  unfold Oper.wp execOp
  simp only [ho, resolve, invoke, builtin, Sem.run_bind, Sem.run_pure, Result.andThen_ok, List.map_toArray, List.map_cons, List.map_nil, hs, hx, hrun]
  exact hK _ _ (h v' w' h2 h3)
end

theorem addr_add2 (b k j : Nat) : (⟨b, k, none⟩ : Addr).add j = ⟨b, k + j, none⟩ := by unfold Addr.add; split <;> simp_all
set_option maxRecDepth 100000 in
set_option maxHeartbeats 2000000 in
theorem clone_any (b n c : Nat) (zs : List Int) (w : World) (hA : Arr w b 65 zs) (hlen : zs.length = n) (hn : n ≤ 6) (hn0 : 0 < n) :
    Calls Try.prog 115 #[.slice (some ⟨b, 0, none⟩) n c] w fun e w' => ∃ g cap, e = .returned (.slice (some ⟨g, 0, none⟩) n cap) ∧ Cel w' g 65 n zs ∧ w.heap.size ≤ g ∧ Below w.heap.size w w' := by
  obtain ⟨i0, hi0, hz0, hz1, hz2⟩ := info_parts infoItems
  have hlt := hA.lt
  have hcell : ∀ j, j < n → w.cell? ⟨b, j, none⟩ = some (.int .i64 (zs[j]?.getD 0)) := fun j hj => hA.cell (by omega)
  have Hl := Lib.hid hlen
  clear hlen
  have hcmp : ∀ w : World, (binOp BinOp.eql 56 (Value.slice (some ⟨b, 0, none⟩) n c) (Value.slice none 0 0)).run Try.prog w = .ok (.bool false) w := fun w => by first | rfl | kernel_rfl | simp [binOp]
  go_enter Try.func115, Try.ntmps115
  have hown := own_new w 65
  have hU1 : Upd (fun _ => False) w (w.alloc (.cells #[] 65)) := (Upd.refl _ w).alloc _
  have hz1' : (w.alloc (.cells #[] 65)).heap.size = w.heap.size + 1 := by simp
  have hnews : ∀ j u, (zs.map (Value.int .i64))[j]? = some u → (w.alloc (.cells #[] 65)).cell? ((⟨b, 0, none⟩ : Addr).add j) = some u := news_at hcell (hU1.mono (S := fun k => w.heap.size ≤ k) (fun _ _ e => e.elim)) hlt (fun j hj => addr_add2 ..) (fun j hj => by rw [Nat.zero_add]) (by rw [Hl.out]; omega)
  go_wp2_with (at_builtin; refine wpList_appendN _ rfl (.tmp 5) (.tmp 6) _ rfl w.heap.size 65 i0 _ 8 Try.underlying56 hi0 hz0 hz1 hz2 rfl _ 0 [] rfl hown ⟨b, 0, none⟩ n c _ rfl (by rw [List.length_map]; exact Hl.out) hnews (fun u hu => by obtain ⟨z, _, rfl⟩ := List.mem_map.1 hu; rfl) (by simp [maxLen]; omega) (by omega) (by simp) ?_; intro v' w' hown' hg')
  go_ret
  rw [Nat.zero_add, List.nil_append] at hown'
  rcases hown'.2 with ⟨_, e⟩ | ⟨g, cap, cur, e, hg, hc, _, _, _, ht⟩
  · omega
  · refine ⟨g, cap, by rw [← e]; rfl, ⟨Hl.out, cur, hc, by simpa using ht⟩, hg, ?_⟩
    exact ((hU1.mono (S := fun k => w.heap.size ≤ k) (fun _ _ e => e.elim)).grown hg' (fun k hk => by simp [Value.ownBlock, Act.eval] at hk; exact .inl (by omega))).toBelow (fun k e => e) (Nat.le_refl _)
set_option maxRecDepth 100000 in
set_option maxHeartbeats 3000000 in
theorem countFirst_any (zs : List Int) (hvo : VoP zs) (n c bo x y : Nat) (hlen0 : zs.length = n) (hx : x < n) (hy : y < n) (hxy : x ≠ y) (w : World) (hA : Arr w bo 65 zs) :
    Calls Try.prog 89 #[.slice (some ⟨bo, 0, none⟩) n c, .int .i64 (x : Int), .int .i64 (y : Int)] w fun e w' => e = .returned (.int .i64 (fcN zs x y)) ∧ Below w.heap.size w w' := by
  have hn6 : n ≤ 6 := by have := hvo.1; rw [hlen0] at this; exact this
  have hzx := hvo.bd x (by rw [hlen0]; exact hx)
  have hzy := hvo.bd y (by rw [hlen0]; exact hy)
  have hcy := hA.cell (k := y) (by rw [hlen0]; exact hy)
  have Hclone := Lib.hid (fun c => clone_any bo n c zs w hA hlen0 hn6 (by omega))
  have Hnone := Lib.hid (fun (e : bitB (zs[y]?.getD 0) x = true) => fc_none (a := x) (b := y) hvo e)
  have Hput := Lib.hid (fun (e : bitB (zs[y]?.getD 0) x = false) => fc_put hvo (a := x) (b := y) (by rw [hlen0]; exact hx) (by rw [hlen0]; exact hy) hxy (by unfold qB; rw [e]; simp))
  have Hvo2 := Lib.hid (fun (e : bitB (zs[y]?.getD 0) x = false) => putA_vo hvo (a := x) (b := y) (by rw [hlen0]; exact hx) (by rw [hlen0]; exact hy) hxy (by unfold qB; rw [e]; simp))
  have Hfit := Lib.hid (putB_fit (a := x) (b := y) hvo (by rw [hlen0]; exact hy))
  have HpB := Lib.hid (show putB zs x y = zs.set x (orI (zs[x]?.getD 0) (powI (y : Int))) from rfl)
  have HpA := Lib.hid (show putA zs x y = folTo n (putB zs x y) n by unfold putA; rw [hlen0])
  have HpL := Lib.hid (show (putA zs x y).length = n by rw [putA_len, hlen0])
  rw [hlen0] at Hput Hfit
  have hlt := hA.lt
  clear hlen0
  have hpy := powI_le6 (n := (y : Int)) (by omega)
  have hpp := powI_pos (y : Int)
  cases hb : bitB (zs[y]?.getD 0) x
  · have Hb := Lib.hid hb
    have hput := Hput.out hb
    have hvo2 := Hvo2.out hb
    clear hb
    go_enter Try.func89, Try.ntmps89
    go_wp2_with fail
    refine (has_any _ _ _ (by omega) (by omega) (by omega) (by omega)).mono ?_
    rw [Hb.out]
    rintro e w' ⟨rfl, rfl⟩
    go_wp2_with fail
    refine (Hclone.out _).mono ?_
    rintro e w2 ⟨g, cap, rfl, hC2, hg, hB2⟩
    have hcx := hC2.cell hx
    have hfx := hC2.frozen x
    have z2 := hB2.size
    have hgl := hC2.lt
    go_wp2_with fail
    refine (with_any _ _ _ (by omega) (by omega) (by omega) (by omega)).mono ?_
    rintro e w' ⟨rfl, rfl⟩
    go_wp2_with fail
    have hC3 := hC2.set x (orI (zs[x]?.getD 0) (powI (y : Int)))
    rw [← HpB.out] at hC3
    have hU3 : Upd (fun k => w.heap.size ≤ k) w (w2.setCell ⟨g, x, none⟩ (.int .i64 (orI (zs[x]?.getD 0) (powI (y : Int))))) := ((Below.toUpd hB2).mono (fun k h1 h2 => by omega)).setCell (p := ⟨g, x, none⟩) (.inl hg) _
    obtain ⟨W3, hW3⟩ : ∃ W3, w2.setCell ⟨g, x, none⟩ (.int .i64 (orI (zs[x]?.getD 0) (powI (y : Int)))) = W3 := ⟨_, rfl⟩
    rw [hW3] at hC3 hU3 ⊢
    clear hW3 hcx hfx
    refine (addWhatFollowsC_any g n cap _ W3 hC3 Hfit.out hn6).mono ?_
    rintro e w4 ⟨⟨v4, rfl⟩, hC4, hU4⟩
    rw [← HpA.out] at hC4
    have hU5 : Upd (fun k => w.heap.size ≤ k) w w4 := hU3.trans' hU4 (fun i hi e => by omega)
    go_wp2_with fail
    refine (ocountLines_any _ n cap (putA zs x y) hvo2 w4 (hC4.ints hC4.lt)).mono ?_
    rintro e w5 ⟨rfl, hB5⟩
    go_wp2_with fail
    go_ret
    exact ⟨ret_int (by rw [hput]), (hU5.toBelow (fun k e => e) (Nat.le_refl _)).trans (hB5.mono hU5.size)⟩
  · have Hb := Lib.hid hb
    have hno := Lib.hid (Hnone.out hb)
    clear hb
    go_enter Try.func89, Try.ntmps89
    go_wp2_with fail
    refine (has_any _ _ _ (by omega) (by omega) (by omega) (by omega)).mono ?_
    rw [Hb.out]
    rintro e w' ⟨rfl, rfl⟩
    go_wp2_with fail
    go_ret
    exact ⟨ret_int (by rw [hno.out]; rfl), Below.refl _ _⟩
end Go.Proofs.Ythjmedbjdjkilaa

/- FirstChance: the program's, whole. -/
namespace Go.Proofs.Ythjmedbjdjkilaa
open Go.RowKit Go.Shelf

set_option maxRecDepth 100000 in
set_option maxHeartbeats 3000000 in
theorem FirstChance_any (A : Option Addr) (n c : Nat) (zs : List Int) (a b : Int) (w : World) (h : Ints w w.heap.size A n zs) (hbig : n ≤ 1152921504606846976) :
    Calls Try.prog 34 #[.slice A n c, .int .i64 a, .int .i64 b] w (GivesFc w zs a b) := by
  have hlen := Lib.hid h.len
  have hb0 : (w.alloc (.cells #[.int .i64 0, .int .i64 0] 39)).heap[w.heap.size]? = some (.cells #[.int .i64 0, .int .i64 0] 39 (0, 0)) := heap_alloc_new w _
  have hU0 : Upd (fun _ => False) w (w.alloc (.cells #[.int .i64 0, .int .i64 0] 39)) := (Upd.refl _ w).alloc _
  have hz0 : (w.alloc (.cells #[.int .i64 0, .int .i64 0] 39)).heap.size = w.heap.size + 1 := by simp
  have h1 := h.to (hU0.toBelow (B := w.heap.size) (fun _ e => e.elim) (Nat.le_refl _)) (Nat.le_refl _) (C := (w.alloc (.cells #[.int .i64 0, .int .i64 0] 39)).heap.size) (by omega)
  have hzl : w.heap.size < (w.alloc (.cells #[.int .i64 0, .int .i64 0] 39)).heap.size := by omega
  have Hz0 := Lib.hid hz0
  clear hz0
  cases hok : fcOk zs a b
  · have Hv := Lib.hid (fcV_no hok)
    have Hok := Lib.hid hok
    cases hv0 : vo zs
    · have HV := Lib.hid hv0
      clear hv0 hok
      go_enter Try.func34, Try.ntmps34
      go_wp2_with fail
      refine (readOrder_any _ _ _ zs _ h1 hbig).mono ?_
      rintro e w1 ⟨hB, (⟨hv, _⟩ | ⟨_, rfl⟩)⟩
      · rw [HV.out] at hv; cases hv
      · have hb1 := (hB.block w.heap.size (by omega)).trans hb0
        have hU1 := hU0.below hB (fun k h1 h2 => by omega)
        have hcA : w1.cell? ⟨w.heap.size, 0, none⟩ = some (.int .i64 0) := by rw [cell_of_row _ _ 0 _ _ (0, 0) hb1]; rfl
        have hcB : w1.cell? ⟨w.heap.size, 1, none⟩ = some (.int .i64 0) := by rw [cell_of_row _ _ 1 _ _ (0, 0) hb1]; rfl
        have hfA : w1.frozen? ⟨w.heap.size, 0, none⟩ = false := frozen_of_row _ _ 0 _ _ hb1
        have hfB : w1.frozen? ⟨w.heap.size, 1, none⟩ = false := frozen_of_row _ _ 1 _ _ hb1
        go_wp2_with fail
        refine bodyPost_ret (v := .tuple #[.agg #[.int .i64 0, .int .i64 0], .bool false]) (results_cell_row2 rfl _ _ w.heap.size _ _ (0, 0) _ _ rfl rfl (row2_set hb1) Try.underlying39 rfl (by kernel_rfl)) rfl ?_
        exact ⟨by rw [Hv.out, Hok.out], ((hU1.setCell (p := ⟨w.heap.size, 0, none⟩) (.inl (Nat.le_refl _)) _).setCell (p := ⟨w.heap.size, 1, none⟩) (.inl (Nat.le_refl _)) _).toBelow (fun _ e => e.elim) (Nat.le_refl _)⟩

    · have HV := Lib.hid hv0
      unfold fcOk at hok
      rw [hv0, Bool.true_and, hlen.out] at hok
      clear hv0
      cases ha : inB a 0 ((n : Int) - 1)
      · have Ha := Lib.hid ha
        clear ha hok
        go_enter Try.func34, Try.ntmps34
        go_wp2_with fail
        refine (readOrder_any _ _ _ zs _ h1 hbig).mono ?_
        rintro e w1 ⟨hB, (⟨_, bo, rfl, hbo, hAr⟩ | ⟨hv, _⟩)⟩
        · have hb1 := (hB.block w.heap.size (by omega)).trans hb0
          have hU1 := hU0.below hB (fun k h1 h2 => by omega)
          have hcA : w1.cell? ⟨w.heap.size, 0, none⟩ = some (.int .i64 0) := by rw [cell_of_row _ _ 0 _ _ (0, 0) hb1]; rfl
          have hcB : w1.cell? ⟨w.heap.size, 1, none⟩ = some (.int .i64 0) := by rw [cell_of_row _ _ 1 _ _ (0, 0) hb1]; rfl
          have hfA : w1.frozen? ⟨w.heap.size, 0, none⟩ = false := frozen_of_row _ _ 0 _ _ hb1
          have hfB : w1.frozen? ⟨w.heap.size, 1, none⟩ = false := frozen_of_row _ _ 1 _ _ hb1
          go_wp2_with fail
          refine (isItemOf_any _ _ _).mono ?_
          rw [Ha.out]
          rintro e w' ⟨rfl, rfl⟩
          go_wp2_with fail
          refine bodyPost_ret (v := .tuple #[.agg #[.int .i64 0, .int .i64 0], .bool false]) (results_cell_row2 rfl _ _ w.heap.size _ _ (0, 0) _ _ rfl rfl (row2_set hb1) Try.underlying39 rfl (by kernel_rfl)) rfl ?_
          exact ⟨by rw [Hv.out, Hok.out], ((hU1.setCell (p := ⟨w.heap.size, 0, none⟩) (.inl (Nat.le_refl _)) _).setCell (p := ⟨w.heap.size, 1, none⟩) (.inl (Nat.le_refl _)) _).toBelow (fun _ e => e.elim) (Nat.le_refl _)⟩

        · rw [HV.out] at hv; cases hv

      · rw [ha, Bool.true_and] at hok
        have Ha := Lib.hid ha
        clear ha
        cases hb : inB b 0 ((n : Int) - 1)
        · have Hb := Lib.hid hb
          clear hb hok
          go_enter Try.func34, Try.ntmps34
          go_wp2_with fail
          refine (readOrder_any _ _ _ zs _ h1 hbig).mono ?_
          rintro e w1 ⟨hB, (⟨_, bo, rfl, hbo, hAr⟩ | ⟨hv, _⟩)⟩
          · have hb1 := (hB.block w.heap.size (by omega)).trans hb0
            have hU1 := hU0.below hB (fun k h1 h2 => by omega)
            have hcA : w1.cell? ⟨w.heap.size, 0, none⟩ = some (.int .i64 0) := by rw [cell_of_row _ _ 0 _ _ (0, 0) hb1]; rfl
            have hcB : w1.cell? ⟨w.heap.size, 1, none⟩ = some (.int .i64 0) := by rw [cell_of_row _ _ 1 _ _ (0, 0) hb1]; rfl
            have hfA : w1.frozen? ⟨w.heap.size, 0, none⟩ = false := frozen_of_row _ _ 0 _ _ hb1
            have hfB : w1.frozen? ⟨w.heap.size, 1, none⟩ = false := frozen_of_row _ _ 1 _ _ hb1
            go_wp2_with fail
            refine (isItemOf_any _ _ _).mono ?_
            rw [Ha.out]
            rintro e w' ⟨rfl, rfl⟩
            go_wp2_with fail
            refine (isItemOf_any _ _ _).mono ?_
            rw [Hb.out]
            rintro e w' ⟨rfl, rfl⟩
            go_wp2_with fail
            refine bodyPost_ret (v := .tuple #[.agg #[.int .i64 0, .int .i64 0], .bool false]) (results_cell_row2 rfl _ _ w.heap.size _ _ (0, 0) _ _ rfl rfl (row2_set hb1) Try.underlying39 rfl (by kernel_rfl)) rfl ?_
            exact ⟨by rw [Hv.out, Hok.out], ((hU1.setCell (p := ⟨w.heap.size, 0, none⟩) (.inl (Nat.le_refl _)) _).setCell (p := ⟨w.heap.size, 1, none⟩) (.inl (Nat.le_refl _)) _).toBelow (fun _ e => e.elim) (Nat.le_refl _)⟩

          · rw [HV.out] at hv; cases hv

        · rw [hb, Bool.true_and] at hok
          have hab : a = b := by simpa using hok
          have hbe : (a == b) = true := by simpa using hab
          have Hb := Lib.hid hb
          clear hb hok hab
          go_enter Try.func34, Try.ntmps34
          go_wp2_with fail
          refine (readOrder_any _ _ _ zs _ h1 hbig).mono ?_
          rintro e w1 ⟨hB, (⟨_, bo, rfl, hbo, hAr⟩ | ⟨hv, _⟩)⟩
          · have hb1 := (hB.block w.heap.size (by omega)).trans hb0
            have hU1 := hU0.below hB (fun k h1 h2 => by omega)
            have hcA : w1.cell? ⟨w.heap.size, 0, none⟩ = some (.int .i64 0) := by rw [cell_of_row _ _ 0 _ _ (0, 0) hb1]; rfl
            have hcB : w1.cell? ⟨w.heap.size, 1, none⟩ = some (.int .i64 0) := by rw [cell_of_row _ _ 1 _ _ (0, 0) hb1]; rfl
            have hfA : w1.frozen? ⟨w.heap.size, 0, none⟩ = false := frozen_of_row _ _ 0 _ _ hb1
            have hfB : w1.frozen? ⟨w.heap.size, 1, none⟩ = false := frozen_of_row _ _ 1 _ _ hb1
            go_wp2_with fail
            refine (isItemOf_any _ _ _).mono ?_
            rw [Ha.out]
            rintro e w' ⟨rfl, rfl⟩
            go_wp2_with fail
            refine (isItemOf_any _ _ _).mono ?_
            rw [Hb.out]
            rintro e w' ⟨rfl, rfl⟩
            go_wp2_with fail
            refine bodyPost_ret (v := .tuple #[.agg #[.int .i64 0, .int .i64 0], .bool false]) (results_cell_row2 rfl _ _ w.heap.size _ _ (0, 0) _ _ rfl rfl (row2_set hb1) Try.underlying39 rfl (by kernel_rfl)) rfl ?_
            exact ⟨by rw [Hv.out, Hok.out], ((hU1.setCell (p := ⟨w.heap.size, 0, none⟩) (.inl (Nat.le_refl _)) _).setCell (p := ⟨w.heap.size, 1, none⟩) (.inl (Nat.le_refl _)) _).toBelow (fun _ e => e.elim) (Nat.le_refl _)⟩

          · rw [HV.out] at hv; cases hv

  · have Hok := Lib.hid hok
    have hok2 := hok
    unfold fcOk at hok2
    rw [Bool.and_eq_true, Bool.and_eq_true, Bool.and_eq_true, hlen.out] at hok2
    obtain ⟨hv0, ha, hb, hab⟩ := hok2
    have hvo : VoP zs := by simpa [vo] using hv0
    have HV := Lib.hid hv0
    have Ha := Lib.hid ha
    have Hb := Lib.hid hb
    simp only [inB, decide_eq_true_eq] at ha hb
    obtain ⟨x, rfl⟩ := Int.eq_ofNat_of_zero_le ha.1
    obtain ⟨y, rfl⟩ := Int.eq_ofNat_of_zero_le hb.1
    have hxn : x < n := by omega
    have hyn : y < n := by omega
    have hxy : x ≠ y := fun e => by subst e; simp at hab
    have hxe : ((x : Int) == (y : Int)) = false := by simp; omega
    have hVal := Lib.hid (show fcV zs x y = fracV (fcN zs x y / Nat.gcd (fcN zs x y) (cF zs (2 ^ n - 1))) (cF zs (2 ^ n - 1) / Nat.gcd (fcN zs x y) (cF zs (2 ^ n - 1))) by unfold fcV; rw [hok, hlen.out]; rfl)
    have hfn := fcN_le hvo (a := x) (b := y) (by rw [hlen.out]; exact hxn) (by rw [hlen.out]; exact hyn) hxy
    have HcF := Lib.hid (show 1 ≤ cF zs (2 ^ n - 1) ∧ cF zs (2 ^ n - 1) ≤ 46656 by
      have hp := Nat.two_pow_pos n
      exact ⟨cF_ge1 hvo _ _ (Nat.le_refl _) (by rw [hlen.out]; omega), cF_le hvo (by rw [hlen.out]; omega)⟩)
    clear hok hv0 ha hb hab
    have hcnt := fun (w' : World) (bo : Nat) (hA : Arr w' bo 65 zs) => countFirst_any zs hvo n n bo x y hlen.out hxn hyn hxy w' hA
    have hall := fun (w' : World) (bo : Nat) (hA : Arr w' bo 65 zs) => ocountLines_any (some ⟨bo, 0, none⟩) n n zs hvo w' (hA.ints' hA.lt hlen.out)
    have Hfr := Lib.hid (fun w' => fracOf_any (fcN zs x y) (cF zs (2 ^ n - 1)) w' (by omega) (by have := HcF.out; omega) HcF.out.1)
    generalize fcN zs x y = u at *
    generalize cF zs (2 ^ n - 1) = tt at *
    generalize u / Nat.gcd u tt = p1 at *
    generalize tt / Nat.gcd u tt = p2 at *
    unfold fracV at *
    go_enter Try.func34, Try.ntmps34
    go_wp2_with fail
    refine (readOrder_any _ _ _ zs _ h1 hbig).mono ?_
    rintro e w1 ⟨hB, (⟨_, bo, rfl, hbo, hAr⟩ | ⟨hv, _⟩)⟩
    · have hb1 := (hB.block w.heap.size (by omega)).trans hb0
      have hU1 := hU0.below hB (fun k h1 h2 => by omega)
      have z1 := hB.size
      go_wp2_with fail
      refine (isItemOf_any _ _ _).mono ?_
      rw [Ha.out]
      rintro e w' ⟨rfl, rfl⟩
      go_wp2_with fail
      refine (isItemOf_any _ _ _).mono ?_
      rw [Hb.out]
      rintro e w' ⟨rfl, rfl⟩
      go_wp2_with fail
      refine (hcnt w1 bo hAr).mono ?_
      rintro e w2 ⟨rfl, hB2⟩
      have z2 := hB2.size
      have hA2 := hAr.below hB2 hAr.lt
      have hb2 := (hB2.block w.heap.size (by omega)).trans hb1
      have hU2 := hU1.below hB2 (fun k h1 h2 => by omega)
      go_wp2_with fail
      refine (hall w2 bo hA2).mono ?_
      rintro e w3 ⟨rfl, hB3⟩
      have z3 := hB3.size
      have hb3 := (hB3.block w.heap.size (by omega)).trans hb2
      have hU3 := hU2.below hB3 (fun k h1 h2 => by omega)
      go_wp2_with fail
      refine (Hfr.out w3).mono ?_
      rintro e w7 ⟨rfl, hB7⟩
      have hb7 := (hB7.block w.heap.size (by omega)).trans hb3
      have hU7 := hU3.below hB7 (fun i h1 h2 => by omega)
      have hcA : w7.cell? ⟨w.heap.size, 0, none⟩ = some (.int .i64 0) := by rw [cell_of_row _ _ 0 _ _ (0, 0) hb7]; rfl
      have hcB : w7.cell? ⟨w.heap.size, 1, none⟩ = some (.int .i64 0) := by rw [cell_of_row _ _ 1 _ _ (0, 0) hb7]; rfl
      have hfA : w7.frozen? ⟨w.heap.size, 0, none⟩ = false := frozen_of_row _ _ 0 _ _ hb7
      have hfB : w7.frozen? ⟨w.heap.size, 1, none⟩ = false := frozen_of_row _ _ 1 _ _ hb7
      go_wp2_with fail
      refine bodyPost_ret (v := .tuple #[.agg #[.int .i64 (p1 : Int), .int .i64 (p2 : Int)], .bool true]) (results_cell_row2 rfl _ _ w.heap.size _ _ (0, 0) _ _ rfl rfl (row2_set hb7) Try.underlying39 rfl (by kernel_rfl)) rfl ?_
      exact ⟨by rw [hVal.out, Hok.out], ((hU7.setCell (p := ⟨w.heap.size, 0, none⟩) (.inl (Nat.le_refl _)) _).setCell (p := ⟨w.heap.size, 1, none⟩) (.inl (Nat.le_refl _)) _).toBelow (fun _ e => e.elim) (Nat.le_refl _)⟩
    · rw [HV.out] at hv; cases hv
end Go.Proofs.Ythjmedbjdjkilaa

/- Texts that several claims share, one behind the other. -/
import Derived.Test.YtmlihbcffndnbaaDoorGxd
import Derived.Test.YtmlihbcffndnbaaDoorGxc
import Derived.Test.YtmlihbcffndnbaaDoorGxa
import Derived.Test.YtmlihbcffndnbaaDoorGxb
set_option linter.unusedVariables false
set_option linter.unusedSimpArgs false
/- JoinOf, MeetOf: the program's and the model's. -/
namespace Go.Proofs.YtmlihbcffndnbaaDoor
open Go.RowKit Go.Shelf
attribute [local go_sem] Oper.semAt_some
attribute [local go_sem, local simp] wide_fn

theorem omeet_any (A : Option Addr) (n c : Nat) (zs : List Int) (a b : Nat) (hv : Sets zs) (w : World) (hA : Ints w w.heap.size A n zs) (ha : a < n) (hb : b < n) :
    Calls Tryd.prog 43 #[.slice A n c, .int .i64 (a : Int), .int .i64 (b : Int)] w fun e W' => e = .returned (joinV (du zs) a b) ∧ Below w.heap.size w W' := by
  have hlen := Lib.hid hA.len
  have Hd := Lib.hid (show downP n (pairsL zs) = du zs by unfold du; rw [hlen.out])
  go_enter Tryd.func43, Tryd.ntmps43
  go_wp2_with fail
  refine (dual_any A n c zs hv w hA).mono ?_
  rintro e w2 ⟨rfl, hA2, hB2⟩
  rw [Hd.out] at hA2
  go_wp2_with fail
  refine (ojoin_any _ n _ (du zs) a b (du_sets hv) _ (hA2.ints' hA2.lt (by rw [du_len, hlen.out])) ha hb).mono ?_
  rintro e w3 ⟨rfl, hB3⟩
  have C := hB2.trans (hB3.mono hB2.size)
  by_cases hneg : joinI (du zs) a b < 0
  · have Hv := Lib.hid (show joinV (du zs) a b = .tuple #[.int .i64 0, .iface 100 (.agg #[.int .i64 (a : Int), .int .i64 (b : Int)])] by unfold joinV; rw [if_pos hneg])
    clear hneg
    rw [Hv.out]
    go_wp2_with fail
    go_ret2
    exact ⟨by rw [Hv.out]; rfl, C⟩
  · have Hv := Lib.hid (show joinV (du zs) a b = .tuple #[.int .i64 (joinI (du zs) a b), .nilIface] by unfold joinV; rw [if_neg hneg])
    clear hneg
    rw [Hv.out]
    go_wp2_with fail
    go_ret2
    exact ⟨by rw [Hv.out]; rfl, C⟩

/-- What is found for two numbers. -/
def findR (zs ds : List Int) (a b : Int) : Int := if isIt zs a && isIt zs b then joinI ds a.toNat b.toNat else -1

set_option maxHeartbeats 1000000 in
theorem find_join_any (A : Option Addr) (n c : Nat) (zs : List Int) (a b : Int) (hv : Sets zs) (w : World) (hA : Ints w w.heap.size A n zs) (hE : Et w) :
    Calls Tryd.prog 42 #[.slice A n c, .func (.func 72) #[.slice A n c] #[], .int .i64 a, .int .i64 b] w fun e W' => e = .returned (.int .i64 (findR zs zs a b)) ∧ Below w.heap.size w W' := by
  have hlen := Lib.hid hA.len
  have hn6 : n ≤ 6 := by have := hv.1; rw [hlen.out] at this; exact this
  have hi := fun k w => isItemOf_any (n : Int) k w
  cases ha : inB a 0 ((n : Int) - 1)
  · have Ht := Lib.hid (show findR zs zs a b = -1 by unfold findR isIt; rw [hlen.out, ha]; rfl)
    have hia := fun w => hi a w
    rw [ha] at hia
    go_enter Tryd.func42, Tryd.ntmps42
    go_wp2_with (go_at_call 71; refine (hia _).mono ?_; rintro e w' ⟨rfl, rfl⟩)
    go_ret
    exact ⟨ret_int Ht.out.symm, Below.refl _ _⟩
  · cases hb : inB b 0 ((n : Int) - 1)
    · have Ht := Lib.hid (show findR zs zs a b = -1 by unfold findR isIt; rw [hlen.out, ha, hb]; rfl)
      have hia := fun w => hi a w
      have hib := fun w => hi b w
      rw [ha] at hia
      rw [hb] at hib
      go_enter Tryd.func42, Tryd.ntmps42
      go_wp2_with fail
      refine (hia _).mono ?_
      rintro e w' ⟨rfl, rfl⟩
      go_wp2_with fail
      refine (hib _).mono ?_
      rintro e w' ⟨rfl, rfl⟩
      go_wp2_with fail
      go_ret
      exact ⟨ret_int Ht.out.symm, Below.refl _ _⟩
    · have Ht := Lib.hid (show findR zs zs a b = joinI zs a.toNat b.toNat by unfold findR isIt; rw [hlen.out, ha, hb]; rfl)
      have hia := fun w => hi a w
      have hib := fun w => hi b w
      rw [ha] at hia
      rw [hb] at hib
      simp only [inB, decide_eq_true_eq] at ha hb
      obtain ⟨x, rfl⟩ := Int.eq_ofNat_of_zero_le ha.1
      obtain ⟨y, rfl⟩ := Int.eq_ofNat_of_zero_le hb.1
      rw [Int.toNat_natCast, Int.toNat_natCast] at Ht
      have hx : x < n := by omega
      have hy : y < n := by omega
      clear hi ha hb
      go_enter Tryd.func42, Tryd.ntmps42
      go_wp2_with fail
      refine (hia _).mono ?_
      rintro e w' ⟨rfl, rfl⟩
      go_wp2_with fail
      refine (hib _).mono ?_
      rintro e w' ⟨rfl, rfl⟩
      go_wp2_with fail
      refine (ojoin_any A n c zs x y hv _ hA hx hy).mono ?_
      rintro e w2 ⟨rfl, hB2⟩
      have hE2 := hE.below hB2 hE.2
      have z2 := hB2.size
      unfold joinV
      have hjb := joinI_bd zs x y
      by_cases hneg : joinI zs x y < 0
      · have Hj := Lib.hid (show joinI zs x y = -1 by omega)
        rw [if_pos hneg]
        clear hneg hjb
        go_wp2_with fail
        refine (isLack_hit _ _ _ hE2).mono ?_
        rintro e w3 ⟨rfl, hB3⟩
        go_wp2_with fail
        go_ret
        exact ⟨ret_int (by rw [Ht.out, Hj.out]), hB2.trans (hB3.mono z2)⟩
      · rw [if_neg hneg]
        clear hneg hjb
        go_wp2_with fail
        refine (isLack_nil _).mono ?_
        rintro e w3 ⟨rfl, hB3⟩
        go_wp2_with fail
        go_ret
        exact ⟨ret_int Ht.out.symm, hB2.trans (hB3.mono z2)⟩

set_option maxHeartbeats 1000000 in
theorem find_meet_any (A : Option Addr) (n c : Nat) (zs : List Int) (a b : Int) (hv : Sets zs) (w : World) (hA : Ints w w.heap.size A n zs) (hE : Et w) :
    Calls Tryd.prog 42 #[.slice A n c, .func (.func 43) #[.slice A n c] #[], .int .i64 a, .int .i64 b] w fun e W' => e = .returned (.int .i64 (findR zs (du zs) a b)) ∧ Below w.heap.size w W' := by
  have hlen := Lib.hid hA.len
  have hn6 : n ≤ 6 := by have := hv.1; rw [hlen.out] at this; exact this
  have hi := fun k w => isItemOf_any (n : Int) k w
  cases ha : inB a 0 ((n : Int) - 1)
  · have Ht := Lib.hid (show findR zs (du zs) a b = -1 by unfold findR isIt; rw [hlen.out, ha]; rfl)
    have hia := fun w => hi a w
    rw [ha] at hia
    go_enter Tryd.func42, Tryd.ntmps42
    go_wp2_with (go_at_call 71; refine (hia _).mono ?_; rintro e w' ⟨rfl, rfl⟩)
    go_ret
    exact ⟨ret_int Ht.out.symm, Below.refl _ _⟩
  · cases hb : inB b 0 ((n : Int) - 1)
    · have Ht := Lib.hid (show findR zs (du zs) a b = -1 by unfold findR isIt; rw [hlen.out, ha, hb]; rfl)
      have hia := fun w => hi a w
      have hib := fun w => hi b w
      rw [ha] at hia
      rw [hb] at hib
      go_enter Tryd.func42, Tryd.ntmps42
      go_wp2_with fail
      refine (hia _).mono ?_
      rintro e w' ⟨rfl, rfl⟩
      go_wp2_with fail
      refine (hib _).mono ?_
      rintro e w' ⟨rfl, rfl⟩
      go_wp2_with fail
      go_ret
      exact ⟨ret_int Ht.out.symm, Below.refl _ _⟩
    · have Ht := Lib.hid (show findR zs (du zs) a b = joinI (du zs) a.toNat b.toNat by unfold findR isIt; rw [hlen.out, ha, hb]; rfl)
      have hia := fun w => hi a w
      have hib := fun w => hi b w
      rw [ha] at hia
      rw [hb] at hib
      simp only [inB, decide_eq_true_eq] at ha hb
      obtain ⟨x, rfl⟩ := Int.eq_ofNat_of_zero_le ha.1
      obtain ⟨y, rfl⟩ := Int.eq_ofNat_of_zero_le hb.1
      rw [Int.toNat_natCast, Int.toNat_natCast] at Ht
      have hx : x < n := by omega
      have hy : y < n := by omega
      clear hi ha hb
      go_enter Tryd.func42, Tryd.ntmps42
      go_wp2_with fail
      refine (hia _).mono ?_
      rintro e w' ⟨rfl, rfl⟩
      go_wp2_with fail
      refine (hib _).mono ?_
      rintro e w' ⟨rfl, rfl⟩
      go_wp2_with fail
      refine (omeet_any A n c zs x y hv _ hA hx hy).mono ?_
      rintro e w2 ⟨rfl, hB2⟩
      have hE2 := hE.below hB2 hE.2
      have z2 := hB2.size
      unfold joinV
      have hjb := joinI_bd (du zs) x y
      by_cases hneg : joinI (du zs) x y < 0
      · have Hj := Lib.hid (show joinI (du zs) x y = -1 by omega)
        rw [if_pos hneg]
        clear hneg hjb
        go_wp2_with fail
        refine (isLack_hit _ _ _ hE2).mono ?_
        rintro e w3 ⟨rfl, hB3⟩
        go_wp2_with fail
        go_ret
        exact ⟨ret_int (by rw [Ht.out, Hj.out]), hB2.trans (hB3.mono z2)⟩
      · rw [if_neg hneg]
        clear hneg hjb
        go_wp2_with fail
        refine (isLack_nil _).mono ?_
        rintro e w3 ⟨rfl, hB3⟩
        go_wp2_with fail
        go_ret
        exact ⟨ret_int Ht.out.symm, hB2.trans (hB3.mono z2)⟩

theorem MeetOf_any (A : Option Addr) (n c : Nat) (zs : List Int) (a b : Int) (w : World) (h : Ints w w.heap.size A n zs) (hbig : n ≤ 1152921504606846976) (hE : Et w) :
    Calls Tryd.prog 19 #[.slice A n c, .int .i64 a, .int .i64 b] w fun e w' => e = .returned (.int .i64 (meetR zs a b)) ∧ Below w.heap.size w w' := by
  have hlen := Lib.hid h.len
  cases hv : vo zs
  · have Ht := Lib.hid (show meetR zs a b = -1 by unfold meetR; rw [hv]; rfl)
    have Hv := Lib.hid hv
    clear hv
    go_enter Tryd.func19, Tryd.ntmps19
    go_wp2_with fail
    refine (readOrder_any _ _ _ zs _ h hbig).mono ?_
    rintro e w' ⟨hB, (⟨hv, b, rfl, _, _⟩ | ⟨_, rfl⟩)⟩
    · rw [Hv.out] at hv; cases hv
    · go_wp2_with fail
      go_ret
      exact ⟨ret_int Ht.out.symm, hB⟩
  · have hvo : VoP zs := by simpa [vo] using hv
    have Ht := Lib.hid (show meetR zs a b = findR zs (du zs) a b by unfold meetR findR; rw [hv]; rfl)
    have Hv := Lib.hid hv
    clear hv
    go_enter Tryd.func19, Tryd.ntmps19
    go_wp2_with fail
    refine (readOrder_any _ _ _ zs _ h hbig).mono ?_
    rintro e w1 ⟨hB, (⟨_, bb, rfl, hb, hAr⟩ | ⟨hv, _⟩)⟩
    · have z1 := hB.size
      have hE1 := hE.below hB hE.2
      go_wp2_with fail
      refine (find_meet_any _ n _ zs a b hvo.sets _ (hAr.ints' hAr.lt hlen.out) hE1).mono ?_
      rintro e w2 ⟨rfl, hB2⟩
      go_wp2_with fail
      go_ret
      exact ⟨ret_int Ht.out.symm, hB.trans (hB2.mono z1)⟩
    · rw [Hv.out] at hv; cases hv

end Go.Proofs.YtmlihbcffndnbaaDoor

/- IsLattice: the program's. -/
namespace Go.Proofs.YtmlihbcffndnbaaDoor
open Go.RowKit Go.Shelf
attribute [local go_sem] Oper.semAt_some
attribute [local go_sem, local simp] wide_fn

theorem OwnS.keepLt {S R : Nat → Prop} {w w' : World} {B : Nat} {e : TypeId} {v : Value} {xs : List Int} (h : OwnS S w B e v xs) (hu : Upd R w w') (hS : ∀ k, S k → k < w.heap.size → ¬ R k) : OwnS S w' B e v xs := by
  obtain ⟨h0, h1⟩ := h
  refine ⟨h0, h1.1, ?_⟩
  rcases h1.2 with e | ⟨g, cap, cur, rfl, hg, hc, hrest⟩
  · exact .inl e
  · have hl := (Array.getElem?_eq_some_iff.1 hc).1
    exact .inr ⟨g, cap, cur, rfl, hg, (hu.block g hl (hS g (h0 g rfl) hl)).trans hc, hrest⟩
/-- A table under way: n rows, of which none from a on has begun. -/
def TabAt (w : World) (bt n a : Nat) : Prop := ∃ cs : Array Value, w.heap[bt]? = some (.cells cs 22 (0, 0)) ∧ cs.size = n ∧ ∀ i, a ≤ i → i < n → cs[i]? = some (.slice none 0 0)
theorem TabAt.keep {w w' : World} {bt n a : Nat} (h : TabAt w bt n a) (hk : w'.heap[bt]? = w.heap[bt]?) : TabAt w' bt n a := by
  obtain ⟨cs, h1, h2, h3⟩ := h
  exact ⟨cs, hk.trans h1, h2, h3⟩
theorem TabAt.lt {w : World} {bt n a : Nat} (h : TabAt w bt n a) : bt < w.heap.size := by
  obtain ⟨cs, h1, _⟩ := h
  exact (Array.getElem?_eq_some_iff.1 h1).1
theorem TabAt.more {w : World} {bt n a b : Nat} (h : TabAt w bt n a) (hab : a ≤ b) : TabAt w bt n b := by
  obtain ⟨cs, h1, h2, h3⟩ := h
  exact ⟨cs, h1, h2, fun i hi hn => h3 i (by omega) hn⟩
theorem TabAt.set {w : World} {bt n a : Nat} (h : TabAt w bt n (a + 1)) (v : Value) : TabAt (w.setCell ⟨bt, a, none⟩ v) bt n (a + 1) := by
  obtain ⟨cs, h1, h2, h3⟩ := h
  refine ⟨cs.setIfInBounds a v, by simp [World.setCell, Array.getElem?_modify, h1], by simpa using h2, fun i hi hn => ?_⟩
  have hne : ¬ a = i := by omega
  rw [Array.getElem?_setIfInBounds, if_neg hne]
  exact h3 i hi hn
theorem TabAt.cell {w : World} {bt n a : Nat} (h : TabAt w bt n a) {i : Nat} (hi : i < n) : ∃ u, w.cell? ⟨bt, i, none⟩ = some u := by
  obtain ⟨cs, h1, h2, _⟩ := h
  exact ⟨cs[i]'(by omega), by rw [cell_of_row _ _ _ _ _ _ h1, Array.getElem?_eq_getElem]⟩
theorem TabAt.cellNil {w : World} {bt n a : Nat} (h : TabAt w bt n a) {i : Nat} (ha : a ≤ i) (hi : i < n) : w.cell? ⟨bt, i, none⟩ = some (.slice none 0 0) := by
  obtain ⟨cs, h1, h2, h3⟩ := h
  rw [cell_of_row _ _ _ _ _ _ h1]
  exact h3 i ha hi
theorem TabAt.setAt {w : World} {bt n a : Nat} (h : TabAt w bt n (a + 1)) (ha : a < n) (v : Value) : (w.setCell ⟨bt, a, none⟩ v).cell? ⟨bt, a, none⟩ = some v := by
  obtain ⟨cs, h1, h2, _⟩ := h
  have h4 : (w.setCell ⟨bt, a, none⟩ v).heap[bt]? = some (.cells (cs.setIfInBounds a v) 22 (0, 0)) := by simp [World.setCell, Array.getElem?_modify, h1]
  rw [cell_of_row _ _ _ _ _ _ h4, Array.getElem?_setIfInBounds_self_of_lt (by omega)]
theorem TabAt.frozen {w : World} {bt n a : Nat} (h : TabAt w bt n a) (i : Nat) : w.frozen? ⟨bt, i, none⟩ = false := by
  obtain ⟨cs, h1, _⟩ := h
  simp [World.frozen?, h1]

/-- What the table of joins comes to: all, or the error. -/
def Tabbed_join (zs : List Int) (e : Ending) : Prop := (JoinsOk zs ∧ ∃ B m c, e = .returned (.tuple #[.slice B m c, .nilIface])) ∨ (¬ JoinsOk zs ∧ ∃ x y : Int, e = .returned (.tuple #[.slice none 0 0, .iface 100 (.agg #[.int .i64 x, .int .i64 y])]))
set_option maxRecDepth 100000 in
set_option maxHeartbeats 4000000 in
theorem otab_join_any (A : Option Addr) (n c : Nat) (zs : List Int) (hv : Sets zs) (w : World) (hA : Ints w w.heap.size A n zs) :
    Calls Tryd.prog 74 #[.slice A n c, .func (.func 72) #[.slice A n c] #[]] w fun e W' => Tabbed_join zs e ∧ Below w.heap.size w W' := by
  obtain ⟨i0, hi0, hz0, hz1, hz2⟩ := info_parts infoInt
  have hlen := Lib.hid hA.len
  have hn6 : n ≤ 6 := by have := hv.1; rw [hlen.out] at this; exact this
  have Hdl := Lib.hid (show zs.length = n by first | exact hlen.out | (rw [du_len]; exact hlen.out))
  have hmk := run_make_row' (P := Tryd.prog) 36 22 (.slice none 0 0) 24 Tryd.underlying36 infoRow rfl .i64 .i64 n (by omega) (by omega)
  go_enter Tryd.func74, Tryd.ntmps74
  go_wp2_with fail
  have hT0 : TabAt (w.alloc (.cells (madeCells #[Value.slice none 0 0] n) 22)) w.heap.size n 0 := ⟨_, heap_alloc_new w _, by simp [madeCells], fun i _ hi => by simp [madeCells, hi, Nat.mod_one]⟩
  have hB0 : Below w.heap.size w (w.alloc (.cells (madeCells #[Value.slice none 0 0] n) 22)) := (Below.refl _ _).alloc (Nat.le_refl _) _
  have hw0 : w.heap.size < (w.alloc (.cells (madeCells #[Value.slice none 0 0] n) 22)).heap.size := by simp
  obtain ⟨W0, hW0⟩ : ∃ W0, w.alloc (.cells (madeCells #[Value.slice none 0 0] n) 22) = W0 := ⟨_, rfl⟩
  rw [hW0] at hT0 hB0 hw0 ⊢
  clear hW0 hmk
  go_loopw [16] (fun i wr => ∃ a : Nat, a ≤ n ∧ i = .int .i64 a ∧ TabAt wr w.heap.size n a ∧ Below w.heap.size w wr ∧ w.heap.size < wr.heap.size ∧ (∀ x, x < a → ∀ y, y < n → 0 ≤ joinI zs x y)) (fun i _ => n - (intOf i).toNat)
  case atStart => exact ⟨0, by omega, rfl, hT0, hB0, hw0, fun x hx => by omega⟩
  case round =>
    clear hT0 hB0 hw0
    obtain ⟨a, ha, rfl, hT, hB, hw, hall⟩ := hrel
    have Hall := Lib.hid hall
    clear hall
    by_cases hlt : a < n
    · rename World => wa
      go_wp2
      go_loopw [21] (fun i wr => ∃ (b : Nat) (v : Value) (xs : List Int), b ≤ n ∧ i = .int .i64 b ∧ TabAt wr w.heap.size n (a + 1) ∧ wr.cell? ⟨w.heap.size, a, none⟩ = some v ∧ OwnS (fun k => wa.heap.size ≤ k) wr w.heap.size 3 v xs ∧ xs.length = b ∧ Upd (fun k => k = w.heap.size) wa wr ∧ (∀ y, y < b → 0 ≤ joinI zs a y)) (fun i _ => n - (intOf i).toNat)
      case atStart => exact ⟨0, .slice none 0 0, [], by omega, rfl, hT.more (by omega), hT.cellNil (Nat.le_refl _) hlt, OwnS.none _ _ _ _, rfl, Upd.refl _ _, fun y hy => by omega⟩
      case round =>
        obtain ⟨b, v, xs, hb, rfl, hTr, hcv, hO, hxl, hU, hrow⟩ := hrel
        have Hrow := Lib.hid hrow
        clear hrow
        rename World => wr
        have zr := hU.size
        by_cases hbn : b < n
        · have hBr : Below w.heap.size w wr := hB.trans (hU.toBelow (fun k e => by omega) (by omega))
          have hAr : Ints wr wr.heap.size A n zs := hA.to hBr (Nat.le_refl _) (by omega)
          have hjb := joinI_bd zs a b
          by_cases hneg : joinI zs a b < 0
          · have HV := Lib.hid (show joinV zs a b = .tuple #[.int .i64 0, .iface 100 (.agg #[.int .i64 (a : Int), .int .i64 (b : Int)])] by unfold joinV; rw [if_pos hneg])
            have HN := Lib.hid (show ¬ JoinsOk zs from fun hok => by have := hok a (by rw [Hdl.out]; exact hlt) b (by rw [Hdl.out]; exact hbn); omega)
            clear hneg hjb
            go_wp2_with fail
            refine (ojoin_any A n c zs a b hv wr hAr hlt hbn).mono ?_
            rw [HV.out]
            rintro e w2 ⟨rfl, hB2⟩
            go_wp2_with fail
            go_ret2
            exact ⟨.inr ⟨HN.out, _, _, rfl⟩, hBr.trans (hB2.mono (by omega))⟩
          · have HV := Lib.hid (show joinV zs a b = .tuple #[.int .i64 (joinI zs a b), .nilIface] by unfold joinV; rw [if_neg hneg])
            have HP := Lib.hid (show 0 ≤ joinI zs a b by omega)
            clear hneg hjb
            generalize hJ : joinI zs a b = J at *
            have HJ := Lib.hid hJ
            clear hJ
            go_wp2_with fail
            refine (ojoin_any A n c zs a b hv wr hAr hlt hbn).mono ?_
            rw [HV.out]
            rintro e w2 ⟨rfl, hB2⟩
            have z2 := hB2.size
            have hT2 : TabAt w2 w.heap.size n (a + 1) := hTr.keep (hB2.block _ (by omega))
            have hc2 : w2.cell? ⟨w.heap.size, a, none⟩ = some v := (hB2.cell (p := ⟨w.heap.size, a, none⟩) (by show w.heap.size < _; omega)).trans hcv
            have hO2 : OwnS (fun k => wa.heap.size ≤ k) w2 w.heap.size 3 v xs := OwnS.keepLt hO (Below.toUpd hB2) (fun k h1 h2 e => by omega)
            have hU2 : Upd (fun k => k = w.heap.size) wa w2 := hU.below hB2 (fun k h1 h2 => by omega)
            have hf2 := hT2.frozen a
            go_wp2_with (at_builtin; refine wpList_append1 _ rfl (.tmp 39) (.tmp 41) _ rfl w.heap.size 3 i0 _ 8 Tryd.underlying22 hi0 hz0 hz1 hz2 rfl _ xs.length _ rfl (hO2.2.alloc _) w2.heap.size 1 (.int .i64 J) rfl (cell_new _ _ _) rfl (by omega) (by omega) (by simp; omega) ?_; rintro v' w' hown' hg' hv'; obtain ⟨g', cap', rfl⟩ := ownsRow_succ hown'; have hgu : Upd (fun k => wa.heap.size ≤ k) w2 w' := ((Upd.refl (fun k => wa.heap.size ≤ k) w2).alloc _).grown hg' (fun k hk => .inr (hO2.1 k hk)); have hT3 : TabAt w' w.heap.size n (a + 1) := hT2.keep (hgu.block _ (by omega) (fun e => by omega)); have hc3 := hgu.cell hc2 (fun e => by simp at e; omega); have hf3 := hT3.frozen a)
            rename_i w'
            have hgu : Upd (fun k => wa.heap.size ≤ k) w2 w' := ((Upd.refl (fun k => wa.heap.size ≤ k) w2).alloc _).grown hg' (fun k hk => .inr (hO2.1 k hk))
            have hT3 : TabAt w' w.heap.size n (a + 1) := hT2.keep (hgu.block _ (by omega) (fun e => by omega))
            have zg := hg'.size
            simp at zg
            have hO3 := hO2.step (S' := fun k => wa.heap.size ≤ k) hown' hv' (fun k e => e) (fun _ => by omega)
            have hU3 : Upd (fun k => k = w.heap.size) wa w' := (hU2.alloc _).grown hg' (fun k hk => .inl (hO2.1 k hk))
            have hus : Upd (fun k => k = w.heap.size) w' (w'.setCell ⟨w.heap.size, a, none⟩ (.slice (some ⟨g', 0, none⟩) (xs.length + 1) cap')) := (Upd.refl (fun k => k = w.heap.size) w').setCell (p := ⟨w.heap.size, a, none⟩) (.inr rfl) _
            rw [hxl] at hO3 hus
            go_roundw
            case rel => exact ⟨b + 1, _, xs ++ [J], by omega, by go_num, hT3.set _, hT3.setAt hlt _, hO3.keepLt hus (fun k h1 h2 e => by omega), by simp [hxl], hU3.setCell (p := ⟨w.heap.size, a, none⟩) (.inr rfl) _, all_snoc Hrow.out (by rw [HJ.out]; exact HP.out)⟩
            case measure => simp [intOf]; omega
        · obtain rfl : b = n := by omega
          go_wp2
          go_roundw
          case rel => exact ⟨a + 1, by omega, by go_num, hTr, hB.trans (hU.toBelow (fun k e => by omega) (by omega)), by omega, all_snoc Hall.out Hrow.out⟩
          case measure => simp [intOf]; omega
    · obtain rfl : a = n := by omega
      go_wp2
      go_ret2
      exact ⟨.inl ⟨fun x hx y hy => Hall.out x (by rw [← Hdl.out]; exact hx) y (by rw [← Hdl.out]; exact hy), _, _, _, rfl⟩, hB⟩

/-- What the table of meets comes to: all, or the error. -/
def Tabbed_meet (zs : List Int) (e : Ending) : Prop := (JoinsOk (du zs) ∧ ∃ B m c, e = .returned (.tuple #[.slice B m c, .nilIface])) ∨ (¬ JoinsOk (du zs) ∧ ∃ x y : Int, e = .returned (.tuple #[.slice none 0 0, .iface 100 (.agg #[.int .i64 x, .int .i64 y])]))
set_option maxRecDepth 100000 in
set_option maxHeartbeats 4000000 in
theorem otab_meet_any (A : Option Addr) (n c : Nat) (zs : List Int) (hv : Sets zs) (w : World) (hA : Ints w w.heap.size A n zs) :
    Calls Tryd.prog 74 #[.slice A n c, .func (.func 43) #[.slice A n c] #[]] w fun e W' => Tabbed_meet zs e ∧ Below w.heap.size w W' := by
  obtain ⟨i0, hi0, hz0, hz1, hz2⟩ := info_parts infoInt
  have hlen := Lib.hid hA.len
  have hn6 : n ≤ 6 := by have := hv.1; rw [hlen.out] at this; exact this
  have Hdl := Lib.hid (show (du zs).length = n by first | exact hlen.out | (rw [du_len]; exact hlen.out))
  have hmk := run_make_row' (P := Tryd.prog) 36 22 (.slice none 0 0) 24 Tryd.underlying36 infoRow rfl .i64 .i64 n (by omega) (by omega)
  go_enter Tryd.func74, Tryd.ntmps74
  go_wp2_with fail
  have hT0 : TabAt (w.alloc (.cells (madeCells #[Value.slice none 0 0] n) 22)) w.heap.size n 0 := ⟨_, heap_alloc_new w _, by simp [madeCells], fun i _ hi => by simp [madeCells, hi, Nat.mod_one]⟩
  have hB0 : Below w.heap.size w (w.alloc (.cells (madeCells #[Value.slice none 0 0] n) 22)) := (Below.refl _ _).alloc (Nat.le_refl _) _
  have hw0 : w.heap.size < (w.alloc (.cells (madeCells #[Value.slice none 0 0] n) 22)).heap.size := by simp
  obtain ⟨W0, hW0⟩ : ∃ W0, w.alloc (.cells (madeCells #[Value.slice none 0 0] n) 22) = W0 := ⟨_, rfl⟩
  rw [hW0] at hT0 hB0 hw0 ⊢
  clear hW0 hmk
  go_loopw [16] (fun i wr => ∃ a : Nat, a ≤ n ∧ i = .int .i64 a ∧ TabAt wr w.heap.size n a ∧ Below w.heap.size w wr ∧ w.heap.size < wr.heap.size ∧ (∀ x, x < a → ∀ y, y < n → 0 ≤ joinI (du zs) x y)) (fun i _ => n - (intOf i).toNat)
  case atStart => exact ⟨0, by omega, rfl, hT0, hB0, hw0, fun x hx => by omega⟩
  case round =>
    clear hT0 hB0 hw0
    obtain ⟨a, ha, rfl, hT, hB, hw, hall⟩ := hrel
    have Hall := Lib.hid hall
    clear hall
    by_cases hlt : a < n
    · rename World => wa
      go_wp2
      go_loopw [21] (fun i wr => ∃ (b : Nat) (v : Value) (xs : List Int), b ≤ n ∧ i = .int .i64 b ∧ TabAt wr w.heap.size n (a + 1) ∧ wr.cell? ⟨w.heap.size, a, none⟩ = some v ∧ OwnS (fun k => wa.heap.size ≤ k) wr w.heap.size 3 v xs ∧ xs.length = b ∧ Upd (fun k => k = w.heap.size) wa wr ∧ (∀ y, y < b → 0 ≤ joinI (du zs) a y)) (fun i _ => n - (intOf i).toNat)
      case atStart => exact ⟨0, .slice none 0 0, [], by omega, rfl, hT.more (by omega), hT.cellNil (Nat.le_refl _) hlt, OwnS.none _ _ _ _, rfl, Upd.refl _ _, fun y hy => by omega⟩
      case round =>
        obtain ⟨b, v, xs, hb, rfl, hTr, hcv, hO, hxl, hU, hrow⟩ := hrel
        have Hrow := Lib.hid hrow
        clear hrow
        rename World => wr
        have zr := hU.size
        by_cases hbn : b < n
        · have hBr : Below w.heap.size w wr := hB.trans (hU.toBelow (fun k e => by omega) (by omega))
          have hAr : Ints wr wr.heap.size A n zs := hA.to hBr (Nat.le_refl _) (by omega)
          have hjb := joinI_bd (du zs) a b
          by_cases hneg : joinI (du zs) a b < 0
          · have HV := Lib.hid (show joinV (du zs) a b = .tuple #[.int .i64 0, .iface 100 (.agg #[.int .i64 (a : Int), .int .i64 (b : Int)])] by unfold joinV; rw [if_pos hneg])
            have HN := Lib.hid (show ¬ JoinsOk (du zs) from fun hok => by have := hok a (by rw [Hdl.out]; exact hlt) b (by rw [Hdl.out]; exact hbn); omega)
            clear hneg hjb
            go_wp2_with fail
            refine (omeet_any A n c zs a b hv wr hAr hlt hbn).mono ?_
            rw [HV.out]
            rintro e w2 ⟨rfl, hB2⟩
            go_wp2_with fail
            go_ret2
            exact ⟨.inr ⟨HN.out, _, _, rfl⟩, hBr.trans (hB2.mono (by omega))⟩
          · have HV := Lib.hid (show joinV (du zs) a b = .tuple #[.int .i64 (joinI (du zs) a b), .nilIface] by unfold joinV; rw [if_neg hneg])
            have HP := Lib.hid (show 0 ≤ joinI (du zs) a b by omega)
            clear hneg hjb
            generalize hJ : joinI (du zs) a b = J at *
            have HJ := Lib.hid hJ
            clear hJ
            go_wp2_with fail
            refine (omeet_any A n c zs a b hv wr hAr hlt hbn).mono ?_
            rw [HV.out]
            rintro e w2 ⟨rfl, hB2⟩
            have z2 := hB2.size
            have hT2 : TabAt w2 w.heap.size n (a + 1) := hTr.keep (hB2.block _ (by omega))
            have hc2 : w2.cell? ⟨w.heap.size, a, none⟩ = some v := (hB2.cell (p := ⟨w.heap.size, a, none⟩) (by show w.heap.size < _; omega)).trans hcv
            have hO2 : OwnS (fun k => wa.heap.size ≤ k) w2 w.heap.size 3 v xs := OwnS.keepLt hO (Below.toUpd hB2) (fun k h1 h2 e => by omega)
            have hU2 : Upd (fun k => k = w.heap.size) wa w2 := hU.below hB2 (fun k h1 h2 => by omega)
            have hf2 := hT2.frozen a
            go_wp2_with (at_builtin; refine wpList_append1 _ rfl (.tmp 39) (.tmp 41) _ rfl w.heap.size 3 i0 _ 8 Tryd.underlying22 hi0 hz0 hz1 hz2 rfl _ xs.length _ rfl (hO2.2.alloc _) w2.heap.size 1 (.int .i64 J) rfl (cell_new _ _ _) rfl (by omega) (by omega) (by simp; omega) ?_; rintro v' w' hown' hg' hv'; obtain ⟨g', cap', rfl⟩ := ownsRow_succ hown'; have hgu : Upd (fun k => wa.heap.size ≤ k) w2 w' := ((Upd.refl (fun k => wa.heap.size ≤ k) w2).alloc _).grown hg' (fun k hk => .inr (hO2.1 k hk)); have hT3 : TabAt w' w.heap.size n (a + 1) := hT2.keep (hgu.block _ (by omega) (fun e => by omega)); have hc3 := hgu.cell hc2 (fun e => by simp at e; omega); have hf3 := hT3.frozen a)
            rename_i w'
            have hgu : Upd (fun k => wa.heap.size ≤ k) w2 w' := ((Upd.refl (fun k => wa.heap.size ≤ k) w2).alloc _).grown hg' (fun k hk => .inr (hO2.1 k hk))
            have hT3 : TabAt w' w.heap.size n (a + 1) := hT2.keep (hgu.block _ (by omega) (fun e => by omega))
            have zg := hg'.size
            simp at zg
            have hO3 := hO2.step (S' := fun k => wa.heap.size ≤ k) hown' hv' (fun k e => e) (fun _ => by omega)
            have hU3 : Upd (fun k => k = w.heap.size) wa w' := (hU2.alloc _).grown hg' (fun k hk => .inl (hO2.1 k hk))
            have hus : Upd (fun k => k = w.heap.size) w' (w'.setCell ⟨w.heap.size, a, none⟩ (.slice (some ⟨g', 0, none⟩) (xs.length + 1) cap')) := (Upd.refl (fun k => k = w.heap.size) w').setCell (p := ⟨w.heap.size, a, none⟩) (.inr rfl) _
            rw [hxl] at hO3 hus
            go_roundw
            case rel => exact ⟨b + 1, _, xs ++ [J], by omega, by go_num, hT3.set _, hT3.setAt hlt _, hO3.keepLt hus (fun k h1 h2 e => by omega), by simp [hxl], hU3.setCell (p := ⟨w.heap.size, a, none⟩) (.inr rfl) _, all_snoc Hrow.out (by rw [HJ.out]; exact HP.out)⟩
            case measure => simp [intOf]; omega
        · obtain rfl : b = n := by omega
          go_wp2
          go_roundw
          case rel => exact ⟨a + 1, by omega, by go_num, hTr, hB.trans (hU.toBelow (fun k e => by omega) (by omega)), by omega, all_snoc Hall.out Hrow.out⟩
          case measure => simp [intOf]; omega
    · obtain rfl : a = n := by omega
      go_wp2
      go_ret2
      exact ⟨.inl ⟨fun x hx y hy => Hall.out x (by rw [← Hdl.out]; exact hx) y (by rw [← Hdl.out]; exact hy), _, _, _, rfl⟩, hB⟩
end Go.Proofs.YtmlihbcffndnbaaDoor

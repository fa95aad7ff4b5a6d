/- Renumbered's own law, with what the library's table holds tied to the program's text: for every input the law returns true. -/
import Derived.Test.YtghogabmkbadjaaDoorRows
import Derived.Test.YtghogabmkbadjaaDoorCards
import Derived.Test.YtghogabmkbadjaaDoorTie
import Derived.Test.YtghogabmkbadjaaDoorFrame
import Derived.Test.YtghogabmkbadjaaDoorLawRenumbered
import Derived.Test.YtghogabmkbadjaaDoorArgBytes
import Derived.ProofKit
import Derived.LaidMore
import Derived.OpenShut
import Derived.Stop.Joined
import Derived.SevenTiedAt
set_option linter.unusedVariables false
set_option linter.unusedSimpArgs false
namespace Go.Proofs.YtghogabmkbadjaaDoor.renumbered
open Go.ChangeShapes Go.WideShapes Go.ChangeAt Go.WideMaps Go.WideElems Go.RowKit
set_option linter.unusedVariables false

theorem dtGlobARenumbered : Tryd.prog.globalNamed "math/bits.deBruijn32tab" = some 0 := by kernel_rfl
theorem dtGlobBRenumbered : Tryd.prog.globalNamed "math/bits.deBruijn64tab" = some 1 := by kernel_rfl
theorem dtTypeBRenumbered : (Tryd.prog.globals[1]?).map (·.type) = some 85 := by kernel_rfl

theorem dtOfLaidRenumbered {W : World} (h : laidMetH Tryd.prog (Rows.fnRenumberedRow.laid) W) : Tab W ∧ 1 < W.heap.size := by
  rw [MakeChecks.laidMetH_plain _ _ _ (by kernel_rfl)] at h
  obtain ⟨ps, ⟨ga, ta, csa, fa, pa, qa, hga, hta, hva, hda, ⟨gb, tb, csb, fb, pb, qb, hgb, htb, hvb, hdb, _, _⟩, _⟩, _, _⟩ := h
  obtain rfl := Option.some.inj (dtGlobBRenumbered.symm.trans hgb)
  obtain rfl := Option.some.inj (dtTypeBRenumbered.symm.trans htb)
  clear hda hva hta
  obtain ⟨xs, m1, rfl, hx1, hlen, hn3, hel⟩ := DataW.trod_array Tryd.underlying85 hdb
  have c5 : Tryd.prog.cellsOf 5 = 1 := by kernel_rfl
  have key : ∀ (i : Nat) (k : Int), i < 64 → (match (Rows.laid_math_bits_deBruijn64tab : DataW Unit) with | .agg l => l[i]? | _ => none) = some (.lit (.int .u8 k)) → W.cell? ⟨1, i, none⟩ = some (.int .u8 k) := by
    intro i k hi hk
    have hx2 : (Rows.laid_math_bits_deBruijn64tab : DataW Unit) = .agg (xs.map (·.1)) := (Prod.mk.inj hx1).1
    rw [hx2] at hk
    simp only [List.getElem?_map] at hk
    have h1 := hel i hi
    cases hxi : xs[i]? with
    | none => rw [hxi] at hk; cases hk
    | some x =>
      rw [hxi] at hk h1
      obtain ⟨n, e1, e2, _⟩ := DataW.trod_int Tryd.underlying5 h1
      rw [e2] at hk
      have hnk : n = k := by simpa using hk
      subst hnk
      rw [c5, Nat.mul_one] at e1
      have h2 : csb.toList[i]? = some (.int .u8 n) := by
        have h3 : ((csb.toList.drop i).take 1)[0]? = some (.int .u8 n) := by rw [e1]; rfl
        rw [List.getElem?_take_of_lt (by omega), List.getElem?_drop, Nat.add_zero] at h3
        exact h3
      rw [World.var?_cell hgb hvb i, ← Array.getElem?_toList]
      exact h2
  have k0 := key 0 0 (by omega) (by kernel_rfl)
  have k1 := key 1 1 (by omega) (by kernel_rfl)
  have k3 := key 3 2 (by omega) (by kernel_rfl)
  have k7 := key 7 3 (by omega) (by kernel_rfl)
  have k15 := key 15 4 (by omega) (by kernel_rfl)
  have k31 := key 31 5 (by omega) (by kernel_rfl)
  refine ⟨fun a ha => ?_, ?_⟩
  · have : a = 0 ∨ a = 1 ∨ a = 2 ∨ a = 3 ∨ a = 4 ∨ a = 5 := by omega
    rcases this with rfl | rfl | rfl | rfl | rfl | rfl
    · exact k0
    · exact k1
    · exact k3
    · exact k7
    · exact k15
    · exact k31
  · rcases Nat.lt_or_ge 1 W.heap.size with e | e
    · exact e
    · simp [World.cell?, Array.getElem?_eq_none e] at k0

set_option maxRecDepth 100000 in
theorem contract (H : Type) (enc : TypeId × Value → H) (W : World) (base : Nat) (args : Array Value) (ds gs : List (DataW H)) (before : List MemPlace)
    (hval : ∀ (j : Nat) t v, Tryd.f3.params[j]? = some t → args[j]? = some v → Value.okWide Tryd.prog W .any base t v)
    (hW : DataW.Whole enc Tryd.prog Tryd.f3.params.toList Rows.fnRenumberedSpec.vars false W args.toList ds gs before) :
    laidMetH Tryd.prog Rows.fnRenumberedRow.laid W → Calls Tryd.prog 3 args W fun e W' => ∃ v, e = .returned v ∧ Rows.fnRenumberedSpec.post enc Tryd.prog Tryd.f3 false true false false W args v W' := by
  intro hL
  obtain ⟨hT, hw1⟩ := dtOfLaidRenumbered hL
  have hW' := hW
  obtain ⟨p, q, hA0, hV, rfl, hfz, hnd⟩ := hW
  have hA : DataW.TrodAll enc Tryd.prog W 0 (fun _ => true) true Tryd.f3.params.toList args.toList ds p := hA0
  rw [Tryd.params3] at hA hval
  obtain ⟨v0, vs0, d0, ds0, p0, q0, hargs0, rfl, rfl, h0, r0⟩ := trodAll_cons hA
  obtain ⟨rfl, rfl, rfl⟩ := trodAll_nil r0
  obtain rfl : args = #[v0] := by cases args; simp_all
  obtain ⟨rfl, rfl⟩ := trodVars_none hV
  obtain ⟨A0, n0, c0, zs0, rfl, hI0, hcap0, again0⟩ := arg_bytes (hval 0 22 v0 rfl rfl) h0
  clear hA0
  simp only [List.append_nil] at hW'
  refine (fnRenumbered_walk A0 n0 c0 zs0 W hI0 hcap0.1 hT hw1).mono fun e W' ⟨he, hg⟩ => ?_
  subst he
  exact ⟨_, rfl, post_of_below (pa := (p0 ++ ([] : List MemPlace))) (pv := []) hW' (fun _ _ _ => trodAll_cons_mk (shut_bool Tryd.underlying4 _) trodAll_mk0) (fun sp hsp => (trodAll_cons_mk (again0 W' hg sp (fun q hq => hsp q (by simp [hq]))) trodAll_mk0)) (fun _ _ => rfl) (by simp)
    hg (ok_one (by kernel_rfl) rfl (okWide_bool_mk Tryd.underlying4 _))⟩

/-- The heap that the start-up leaves meets the condition. -/
theorem dtDoorMetRenumbered (os : Os) (args : Array Value) : laidMetH Tryd.prog Rows.fnRenumberedRow.laid ((World.doorLaid Tryd.prog 400 os).forCall (fun _ _ => 0) ⟨#[], args, []⟩).memory :=
  laidMetH_of_parts3 (fuel := 8) (laidMet_of_run' 8 (by kernel_rfl) (by kernel_rfl)) (by kernel_rfl) (by kernel_rfl)

set_option maxRecDepth 100000 in
theorem lifted (os : Os) (started : os.Started) (H : Type) (enc : TypeId × Value → H) :
    ReturnsInHanded {} Tryd.checked os 3 .any (fun w args => (Rows.fnRenumberedSpec.pre enc Tryd.prog Tryd.f3 [] false w args ∧ laidMetH Tryd.prog Rows.fnRenumberedRow.laid w) ∧ sizedMet enc Tryd.prog Tryd.f3 (OpenSpec.ofChange Rows.fnRenumberedSpec) false w args)
      (Rows.fnRenumberedSpec.post enc Tryd.prog Tryd.f3 false true false false) := by
  refine returnsInHanded_of_change_and (C := Tryd.checked) (X := fun w _ => laidMetH Tryd.prog Rows.fnRenumberedRow.laid w) (fun _ _ _ hh h => h.of_heap hh) own started (by kernel_rfl) Tryd.func3
    (ChangeSpec.witness_shaped (enc := enc) (C := Tryd.checked) (os := os) (X := fun w _ => laidMetH Tryd.prog Rows.fnRenumberedRow.laid w) false (World.doorLaid Tryd.prog 400 os) #[.slice none 0 0] 8 rfl (World.shaped_of_RefB (by kernel_rfl) (by kernel_rfl)) (by kernel_rfl) (by kernel_rfl) (by kernel_rfl) (dtDoorMetRenumbered os _)) ?_
  intro W base args ds gs before hval hW _ _ hL _
  exact contract H enc W base args ds gs before hval hW hL

theorem dtSaidRenumbered : Rows.FnRenumberedSaid :=
  OpenClaim.holds_of_wide 3 Tryd.f3 rfl rfl rfl rfl rfl rfl rfl ⟨rfl, rfl, rfl, rfl, rfl⟩ rfl rfl rfl rfl rfl (by kernel_rfl) Tryd.func3 (by kernel_rfl)
    (of_decide_eq_true (by kernel_rfl)) (by unfold Func.isWrapper; first | (rw [if_pos (by decide +kernel)]; kernel_rfl) | (rw [if_neg (by decide +kernel)]; exact ⟨rfl, rfl⟩))
    (fun os started H enc _ => lifted os started H enc)
/-- The card. -/
theorem proved : Rows.FnRenumberedCardSaid :=
  Claim7.holds_tied_plain_at .later [] [.data, .data] true (true, "bb1e52c6d17465a27935393a441f6eb9f27f9548ff7f41de98f96deef76e3e7f") false
    dtSaidRenumbered (fun _ h => by cases h) (by kernel_rfl) (fun _ h => by cases h) fnRenumbered_row_tie rfl ⟨rfl, rfl⟩ (by kernel_rfl) rfl
    (fun f fn hf hfn => by
      obtain rfl : f = 3 := Option.some.inj ((show Tryd.prog.funcNamed "loop.example/ordersthatbranch/laws.FnRenumbered" = some 3 by kernel_rfl).symm.trans hf) |>.symm
      obtain rfl : fn = Tryd.f3 := (Option.some.inj (Tryd.func3.symm.trans hfn)).symm
      exact ⟨by kernel_rfl, fun j t ht => by
        rw [Tryd.params3] at ht
        have hm : t ∈ [22] := by simpa using Array.mem_of_getElem? ht
        have hall : ([22].all fun u => !Tryd.prog.wantsStandIn u) = true := by kernel_rfl
        exact (show Tryd.prog.wantsStandIn t = false by simpa using List.all_eq_true.1 hall t hm)⟩)
    (by kernel_rfl)
end Go.Proofs.YtghogabmkbadjaaDoor.renumbered

/- The statement on CountNodes, from the walk of its law. -/
import Derived.Test.YtodcapgmhginoaaRows
import Derived.Test.YtodcapgmhginoaaCnS29
import Derived.Test.YtodcapgmhginoaaCnS0
import Derived.Test.YtodcapgmhginoaaCnS30
import Derived.Test.YtodcapgmhginoaaCnS27
import Derived.WalkKit
import Derived.ProofKit
import Derived.OpenShut
import Derived.ChangeOld
import Derived.Below
namespace Go.Proofs.Ytodcapgmhginoaa.exCountNodes
open Go.ChangeShapes Go.WideShapes Go.ChangeAt Go.RowKit
set_option linter.unusedVariables false

theorem own : ownKnob Try.prog.godebug = none := by kernel_rfl
theorem laidOut : laidOutB Try.prog = true := by kernel_rfl

theorem walk (hI : ImplCountNodes) (kv cv : Value) (t : Tr) (w : World) (ht : TreeIn w w.heap.size kv cv t) :
    Calls Try.prog 5 #[.agg #[kv, cv]] w fun e w' => e = .returned (.bool true) ∧ Below w.heap.size w w' := exCountNodes_c w ht hI

set_option maxRecDepth 100000 in
set_option maxHeartbeats 1000000 in
theorem lifted (hI : ImplCountNodes) (os : Os) (started : os.Started) (H : Type) (enc : TypeId × Value → H) :
    ReturnsInHanded {} Try.checked os 5 .any (Rows.fnExactCountNodesSpec.pre6 enc Try.prog Try.f5 Rows.fnExactCountNodesRow.domain false) (Rows.fnExactCountNodesSpec.post enc Try.prog Try.f5 false true false false) := by
  refine returnsInHanded_of_change (C := Try.checked) own started (by kernel_rfl) Try.func5
    (ChangeSpec.witness6 (enc := enc) (C := Try.checked) false ⟨#[], #[.agg #[.slice none 0 0, .slice none 0 0]], []⟩ 8 (by kernel_rfl) (by kernel_rfl) (by kernel_rfl) (by kernel_rfl)) ?_
  intro W base args ds gs before hval0 hW hcnd _
  have hval : ∀ (j : Nat) t v, Try.f5.params[j]? = some t → args[j]? = some v → Value.okWide Try.prog W .any base t v := hval0
  have hW' := hW
  obtain ⟨p, q, hA0, hV, rfl, hfz, hnd⟩ := hW
  have hA : DataW.TrodAll enc Try.prog W 0 (fun _ => true) true Try.f5.params.toList args.toList ds p := hA0
  rw [Try.params5] at hA hval
  obtain ⟨v0, vs0, d0, ds0, p0, q0, hargs, rfl, rfl, h0, r0⟩ := trodAll_cons hA
  obtain ⟨rfl, rfl, rfl⟩ := trodAll_nil r0
  obtain rfl : args = #[v0] := by cases args; simp_all
  obtain ⟨rfl, rfl⟩ := trodVars_none hV
  obtain ⟨cs, rfl, hcs⟩ := okWide_struct Try.underlying25 (hval 0 25 v0 rfl rfl)
  have k0 := h0
  have lt0 : ∀ x ∈ p0, x.block < W.heap.size := by obtain ⟨m, hm⟩ := k0; exact DataW.trod_lt m _ _ _ hm
  obtain ⟨kv, cv, t, hkc, ht, hf⟩ : ∃ kv cv t, cs = #[kv, cv] ∧ TreeIn W W.heap.size kv cv t ∧ Tr.Fit t := by
    obtain ⟨fuel, hf⟩ := h0
    obtain ⟨kv, cv, t, hcl, ht, hft⟩ := tree_of_trod fuel hf
    exact ⟨kv, cv, t, by cases cs; simp_all [Value.cells], ht, hft⟩
  subst hkc
  clear hA0 hval0
  refine (walk hI kv cv t W ht).mono fun e W' ⟨he, bel⟩ => ?_
  subst he
  exact ⟨_, rfl, _, _, _, [], _, [], hW', trodAll_mk1 (shut_bool Try.underlying4 _), (trodAll_cons_mk (Below.trod laidOut (by kernel_rfl) (of_decide_eq_true (by kernel_rfl)) k0 bel lt0) trodAll_mk0), rfl, bel.frame _, fun h => by cases h⟩

theorem closed : joinedFacts Try.prog 5 Try.f5 Rows.fnExactCountNodesSpec Rows.fnExactCountNodesRow = true := by
  unfold joinedFacts
  exact band (band (band (band (band (band (band (by kernel_rfl) fact_enter) fact_lifts) fact_make) (by kernel_rfl)) (by kernel_rfl)) (by kernel_rfl)) (by kernel_rfl)

theorem over (hI : ImplCountNodes) : Rows.fnExactCountNodesRow.holds Try.pinned (OpenSpec.ofChange Rows.fnExactCountNodesSpec) :=
  OpenClaim.holds_of_wide 5 Try.f5 rfl rfl rfl rfl rfl rfl rfl ⟨rfl, rfl, rfl, rfl, rfl⟩ rfl rfl rfl rfl rfl (by kernel_rfl) Try.func5 closed
    (of_decide_eq_true (by kernel_rfl)) (by unfold Func.isWrapper; first | (rw [if_pos (by decide +kernel)]; kernel_rfl) | (rw [if_neg (by decide +kernel)]; exact ⟨rfl, rfl⟩))
    (fun os started H enc _ => lifted hI os started H enc)

theorem proved (hI : ImplCountNodes) : Rows.FnExactCountNodesSaid := over hI
end Go.Proofs.Ytodcapgmhginoaa.exCountNodes

/- The statement on BlackDepth, from the walk of its law. -/
import Derived.Test.YtodcapgmhginoaaRows
import Derived.Test.YtodcapgmhginoaaBdS34
import Derived.Test.YtodcapgmhginoaaBdS0
import Derived.Test.YtodcapgmhginoaaBdS35
import Derived.Test.YtodcapgmhginoaaBdS36
import Derived.Test.YtodcapgmhginoaaBdS40
import Derived.WalkKit
import Derived.ProofKit
import Derived.OpenShut
import Derived.ChangeOld
import Derived.Below
namespace Go.Proofs.Ytodcapgmhginoaa.exBlackDepth
open Go.ChangeShapes Go.WideShapes Go.ChangeAt Go.RowKit
set_option linter.unusedVariables false

theorem own : ownKnob Try.prog.godebug = none := by kernel_rfl
theorem laidOut : laidOutB Try.prog = true := by kernel_rfl

theorem walk (hI : ImplBlackDepth) (cv : Value) (t : Bt) (w : World) (ht : BinIn w w.heap.size cv t) :
    Calls Try.prog 12 #[.agg #[.int .i64 t.key, .bool t.red, cv]] w fun e w' => e = .returned (.bool true) ∧ Below w.heap.size w w' := exBlackDepth_c w ht hI

set_option maxRecDepth 100000 in
set_option maxHeartbeats 1000000 in
theorem lifted (hI : ImplBlackDepth) (os : Os) (started : os.Started) (H : Type) (enc : TypeId × Value → H) :
    ReturnsInHanded {} Try.checked os 12 .any (Rows.fnExactBlackDepthSpec.pre6 enc Try.prog Try.f12 Rows.fnExactBlackDepthRow.domain false) (Rows.fnExactBlackDepthSpec.post enc Try.prog Try.f12 false true false false) := by
  refine returnsInHanded_of_change (C := Try.checked) own started (by kernel_rfl) Try.func12
    (ChangeSpec.witness6 (enc := enc) (C := Try.checked) false ⟨#[], #[.agg #[.int .i64 0, .bool false, .slice none 0 0]], []⟩ 8 (by kernel_rfl) (by kernel_rfl) (by kernel_rfl) (by kernel_rfl)) ?_
  intro W base args ds gs before hval0 hW hcnd _
  have hval : ∀ (j : Nat) t v, Try.f12.params[j]? = some t → args[j]? = some v → Value.okWide Try.prog W .any base t v := hval0
  have hW' := hW
  obtain ⟨p, q, hA0, hV, rfl, hfz, hnd⟩ := hW
  have hA : DataW.TrodAll enc Try.prog W 0 (fun _ => true) true Try.f12.params.toList args.toList ds p := hA0
  rw [Try.params12] at hA hval
  obtain ⟨v0, vs0, d0, ds0, p0, q0, hargs, rfl, rfl, h0, r0⟩ := trodAll_cons hA
  obtain ⟨rfl, rfl, rfl⟩ := trodAll_nil r0
  obtain rfl : args = #[v0] := by cases args; simp_all
  obtain ⟨rfl, rfl⟩ := trodVars_none hV
  obtain ⟨cs, rfl, hcs⟩ := okWide_struct Try.underlying43 (hval 0 43 v0 rfl rfl)
  have k0 := h0
  have lt0 : ∀ x ∈ p0, x.block < W.heap.size := by obtain ⟨m, hm⟩ := k0; exact DataW.trod_lt m _ _ _ hm
  obtain ⟨cv, t, hkc, ht⟩ : ∃ cv t, cs = #[.int .i64 t.key, .bool t.red, cv] ∧ BinIn W W.heap.size cv t := by
    obtain ⟨fuel, hf⟩ := h0
    obtain ⟨cv, t, hcl, ht⟩ := bin_of_trod fuel hf
    exact ⟨cv, t, by cases cs; simp_all [Value.cells], ht⟩
  subst hkc
  clear hA0 hval0
  refine (walk hI cv t W ht).mono fun e W' ⟨he, bel⟩ => ?_
  subst he
  exact ⟨_, rfl, _, _, _, [], _, [], hW', trodAll_mk1 (shut_bool Try.underlying4 _), (trodAll_cons_mk (Below.trod laidOut (by kernel_rfl) (of_decide_eq_true (by kernel_rfl)) k0 bel lt0) trodAll_mk0), rfl, bel.frame _, fun h => by cases h⟩

theorem closed : joinedFacts Try.prog 12 Try.f12 Rows.fnExactBlackDepthSpec Rows.fnExactBlackDepthRow = true := by
  unfold joinedFacts
  exact band (band (band (band (band (band (band (by kernel_rfl) fact_enter) fact_lifts) fact_make) (by kernel_rfl)) (by kernel_rfl)) (by kernel_rfl)) (by kernel_rfl)

theorem over (hI : ImplBlackDepth) : Rows.fnExactBlackDepthRow.holds Try.pinned (OpenSpec.ofChange Rows.fnExactBlackDepthSpec) :=
  OpenClaim.holds_of_wide 12 Try.f12 rfl rfl rfl rfl rfl rfl rfl ⟨rfl, rfl, rfl, rfl, rfl⟩ rfl rfl rfl rfl rfl (by kernel_rfl) Try.func12 closed
    (of_decide_eq_true (by kernel_rfl)) (by unfold Func.isWrapper; first | (rw [if_pos (by decide +kernel)]; kernel_rfl) | (rw [if_neg (by decide +kernel)]; exact ⟨rfl, rfl⟩))
    (fun os started H enc _ => lifted hI os started H enc)

theorem proved (hI : ImplBlackDepth) : Rows.FnExactBlackDepthSaid := over hI
end Go.Proofs.Ytodcapgmhginoaa.exBlackDepth

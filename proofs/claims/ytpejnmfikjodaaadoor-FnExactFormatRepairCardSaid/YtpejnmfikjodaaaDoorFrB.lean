/- The statement on FormatRepair: the row, and the card that ties it to the program's text. -/
import Derived.Test.YtpejnmfikjodaaaDoorProg
import Derived.Test.YtpejnmfikjodaaaDoorFrA
import Derived.Test.YtpejnmfikjodaaaDoorRows
import Derived.Test.YtpejnmfikjodaaaDoorCards
import Derived.Test.YtpejnmfikjodaaaDoorTie
import Derived.Lib.LaidTab
import Derived.WalkKit
import Derived.ProofKit
import Derived.OpenShut
import Derived.ChangeOld
import Derived.Below
import Derived.LaidMore
import Derived.OpenVars
import Derived.Stop.LaidErr
import Derived.Stop.Joined
import Derived.SevenTiedAt

/- The law on the text of a repair: the walk over the contracts. -/
namespace Go.Proofs.YtpejnmfikjodaaaDoor
open Go.RowKit

set_option maxHeartbeats 1000000 in
set_option maxRecDepth 100000 in
theorem exFmtRep_c (b j : Int) (s : Bool) (hb0 : -9223372036854775808 ≤ b) (hb1 : b ≤ 9223372036854775807) (hj0 : -9223372036854775808 ≤ j) (hj1 : j ≤ 9223372036854775807) (w : World)
    (htab : Lib.TabIs Tryd.prog w "internal/strconv.uint64pow10" .u64 Lib.pow10Tab) :
    Calls Tryd.prog 4 #[.agg #[.int .i64 b, .int .i64 j, .bool s]] w fun e w' => e = .returned (.bool true) ∧ Below w.heap.size w w' := by
  have HT := Lib.hid (Lib.tabBelow_of_tabIs htab)
  obtain ⟨W1, hW1⟩ : ∃ W1, W1 = w.alloc (.cells #[.int .i64 b, .int .i64 j, .bool s] 39) := ⟨_, rfl⟩
  have hs1 : w.heap.size < W1.heap.size := by rw [hW1]; simp
  have hf1 : Below w.heap.size w W1 := by rw [hW1]; exact (Below.refl _ _).alloc (Nat.le_refl _) _
  have hx1 : W1.heap[w.heap.size]? = some (.cells #[.int .i64 b, .int .i64 j, .bool s] 39 (0, 0)) := by rw [hW1, new_blk]
  have BOX : Hid (∀ wx : World, Below W1.heap.size W1 wx → wx.heap[w.heap.size]? = some (.cells #[.int .i64 b, .int .i64 j, .bool s] 39 (0, 0))) := Lib.hid (fun wx hx => (hx.block _ (by omega)).trans hx1)
  have hx1x := hx1
  rw [hW1] at hx1x
  obtain ⟨x1, x2, x3⟩ := box3 hx1x
  have HF := Lib.hid hf1
  have HW1 := Lib.hid hW1
  clear htab hW1 hf1 hx1 hx1x
  go_enter Tryd.func4, Tryd.ntmps4
  go_wp2_with fail
  rw [← HW1.out]
  refine (toRep_c b j s W1).mono ?_
  rintro e w2 ⟨rfl, hb2⟩
  have HS := Lib.hid (spec_formatRepair b j s hb0 hb1 hj0 hj1 w2)
  have hs2 := hb2.size
  have H2 := Lib.hid hb2
  clear hb2 x1 x2 x3
  go_wp2_with fail
  refine HS.out.mono ?_
  rintro e w3 ⟨rfl, hb3⟩
  have hb3' := H2.out.trans (hb3.mono hs2)
  have hs3 := hb3'.size
  obtain ⟨x1, x2, x3⟩ := box3 (BOX.out w3 hb3')
  have H3 := Lib.hid hb3'
  clear hb3 hb3'
  go_wp2_with fail
  refine (toRep_c b j s w3).mono ?_
  rintro e w4 ⟨rfl, hb4⟩
  have hb4' := H3.out.trans (hb4.mono hs3)
  have hs4 := hb4'.size
  have HI := Lib.hid (impl_formatRepair b j s hb0 hb1 hj0 hj1 w w4 HT.out (HF.out.trans (hb4'.mono (by omega))))
  have H4 := Lib.hid hb4'
  clear hb4 hb4' x1 x2 x3
  go_wp2_with fail
  refine HI.out.mono ?_
  rintro e w5 ⟨rfl, hb5⟩
  have H5 := Lib.hid (HF.out.trans ((H4.out.trans (hb5.mono hs4)).mono (by omega)))
  clear hb5
  go_wp2_with fail
  go_ret
  exact ⟨rfl, H5.out⟩
end Go.Proofs.YtpejnmfikjodaaaDoor

/- The statement on FormatRepair: the row, and the card that ties it to the program's text. -/
namespace Go.Proofs.YtpejnmfikjodaaaDoor.rowFmtRep
open Go.ChangeShapes Go.WideShapes Go.ChangeAt Go.RowKit
set_option linter.unusedVariables false

theorem own : ownKnob Tryd.prog.godebug = none := by kernel_rfl
theorem laidOut : laidOutB Tryd.prog = true := by kernel_rfl
theorem cellsRep : Tryd.prog.cellsOf 39 = 3 := by kernel_rfl
theorem cellsI : Tryd.prog.cellsOf 3 = 1 := by kernel_rfl
theorem cellsB : Tryd.prog.cellsOf 4 = 1 := by kernel_rfl
theorem gPow : Tryd.prog.globalNamed "internal/strconv.uint64pow10" = some 0 := by kernel_rfl
theorem tPow : (Tryd.prog.globals[0]?).map (·.type) = some 124 := by kernel_rfl

def laid3 : List (String × DataW Unit) := [("math/bits.deBruijn32tab", Rows.laid_math_bits_deBruijn32tab), ("math/bits.deBruijn64tab", Rows.laid_math_bits_deBruijn64tab), ("internal/strconv.uint64pow10", Rows.laid_internal_strconv_uint64pow10)]

theorem pow_data : (Rows.laid_internal_strconv_uint64pow10 : DataW Unit) = Lib.tabData .u64 Lib.pow10Tab := by
  simp [Rows.laid_internal_strconv_uint64pow10, Lib.tabData, Lib.pow10Tab, List.range_succ]

theorem of_laid {W : World} (h : laidMetH Tryd.prog laid3 W) : Lib.TabIs Tryd.prog W "internal/strconv.uint64pow10" .u64 Lib.pow10Tab := by
  rw [MakeChecks.laidMetH_plain _ _ _ (by kernel_rfl)] at h
  have h2 := laidMet.tail (laidMet.tail h)
  rw [pow_data] at h2
  exact Lib.tabIs_of_head gPow tPow Tryd.underlying124 Tryd.underlying112 (by kernel_rfl) (by kernel_rfl) h2

set_option maxRecDepth 100000 in
theorem rep_of_trod {H : Type} {enc : TypeId × Value → H} {w : World} {base : Nat} {spare : Nat → Bool} {held : Bool} {fuel : Nat} {cs : List Value} {x : DataW H × List MemPlace} (h : DataW.trod enc Tryd.prog w base spare held fuel 39 cs = some x) :
    ∃ b j s, cs = [.int .i64 b, .int .i64 j, .bool s] ∧ (Lit.int .i64 b).wf = true ∧ (Lit.int .i64 j).wf = true := by
  obtain ⟨xs, n, rfl, _, hlen, hxl, hf⟩ := DataW.trod_struct Tryd.underlying39 h
  rw [cellsRep] at hlen
  match cs, hlen, xs, hxl with
  | [c0, c1, c2], _, [y0, y1, y2], _ =>
    have hf0 := hf 0 _ rfl
    have hf1 := hf 1 _ rfl
    have hf2 := hf 2 _ rfl
    simp only [List.getElem?_cons_zero, List.getElem?_cons_succ] at hf0 hf1 hf2
    obtain ⟨b, hb, -, wb⟩ := DataW.trod_int Tryd.underlying3 hf0
    obtain ⟨j, hj, -, wj⟩ := DataW.trod_int Tryd.underlying3 hf1
    obtain ⟨s, hs, -⟩ := DataW.trod_bool Tryd.underlying4 hf2
    obtain rfl : c0 = .int .i64 b := by simpa [cellsI] using hb
    obtain rfl : c1 = .int .i64 j := by simpa [cellsI] using hj
    obtain rfl : c2 = .bool s := by simpa [cellsI, cellsB] using hs
    exact ⟨b, j, s, rfl, wb, wj⟩

theorem bounds {n : Int} (h : (Lit.int .i64 n).wf = true) : -9223372036854775808 ≤ n ∧ n ≤ 9223372036854775807 := by
  simpa [Lit.wf, IntKind.min, IntKind.max, IntKind.signed, IntKind.bits] using h

theorem door_met (os : Os) (args : Array Value) : laidMetH Tryd.prog laid3 ((World.doorLaid Tryd.prog 400 os).forCall (fun _ _ => 0) ⟨#[], args, []⟩).memory :=
  laidMetH_of_parts3 (fuel := 8) (laidMet_of_run' 8 (by kernel_rfl) (by kernel_rfl)) (by kernel_rfl) (by kernel_rfl)

set_option maxRecDepth 100000 in
set_option maxHeartbeats 1000000 in
theorem lifted (os : Os) (started : os.Started) (H : Type) (enc : TypeId × Value → H) :
    ReturnsInHanded {} Tryd.checked os 4 .any (fun w args => (Rows.fnExactFormatRepairSpec.pre enc Tryd.prog Tryd.f4 Rows.fnExactFormatRepairRow.domain false w args ∧ laidMetH Tryd.prog laid3 w) ∧ sizedMet enc Tryd.prog Tryd.f4 (OpenSpec.ofChange Rows.fnExactFormatRepairSpec) false w args)
      (Rows.fnExactFormatRepairSpec.post enc Tryd.prog Tryd.f4 false true false false) := by
  refine returnsInHanded_of_change_and (C := Tryd.checked) (X := fun w _ => laidMetH Tryd.prog laid3 w) (fun _ _ _ hh h => h.of_heap hh) own started (by kernel_rfl) Tryd.func4
    (ChangeSpec.witness_shaped (enc := enc) (C := Tryd.checked) (os := os) (X := fun w _ => laidMetH Tryd.prog laid3 w) false (World.doorLaid Tryd.prog 400 os) #[.agg #[.int .i64 0, .int .i64 0, .bool false]] 8 rfl (World.shaped_of_RefB (by kernel_rfl) (by kernel_rfl)) (by kernel_rfl) (by kernel_rfl) (by kernel_rfl) (door_met os _)) ?_
  intro W base args ds gs before hval0 hW _ _ hL _
  have hval : ∀ (j : Nat) t v, Tryd.f4.params[j]? = some t → args[j]? = some v → Value.okWide Tryd.prog W .any base t v := hval0
  have hW' := hW
  obtain ⟨p, q, hA0, hV, rfl, hfz, hnd⟩ := hW
  have hA : DataW.TrodAll enc Tryd.prog W 0 (fun _ => true) true Tryd.f4.params.toList args.toList ds p := hA0
  rw [Tryd.params4] at hA hval
  obtain ⟨rfl, rfl⟩ := trodVars_none hV
  obtain ⟨v0, vs0, d0, ds0, p0, q0, hargs, rfl, rfl, h0, r0⟩ := trodAll_cons hA
  obtain ⟨rfl, rfl, rfl⟩ := trodAll_nil r0
  obtain rfl : args = #[v0] := by cases args; simp_all
  obtain ⟨cs, rfl, hcs⟩ := okWide_struct Tryd.underlying39 (hval 0 39 v0 rfl rfl)
  have k0 := h0
  have lt0 : ∀ x ∈ p0, x.block < W.heap.size := by obtain ⟨m, hm⟩ := k0; exact DataW.trod_lt m _ _ _ hm
  obtain ⟨b, j, s, hc, wb, wj⟩ : ∃ b j s, cs = #[.int .i64 b, .int .i64 j, .bool s] ∧ (Lit.int .i64 b).wf = true ∧ (Lit.int .i64 j).wf = true := by
    obtain ⟨fuel, hf⟩ := h0
    obtain ⟨b, j, s, hcl, wb, wj⟩ := rep_of_trod hf
    exact ⟨b, j, s, by cases cs; simp_all [Value.cells], wb, wj⟩
  subst hc
  clear hA0 hval0
  refine (exFmtRep_c b j s (bounds wb).1 (bounds wb).2 (bounds wj).1 (bounds wj).2 W (of_laid hL)).mono fun e W' ⟨he, bel⟩ => ?_
  subst he
  exact ⟨_, rfl, _, _, _, [], _, [], hW', trodAll_mk1 (shut_bool Tryd.underlying4 _), (trodAll_cons_mk (Below.trod laidOut (by kernel_rfl) (of_decide_eq_true (by kernel_rfl)) k0 bel lt0) trodAll_mk0), rfl, bel.frame _, fun h => by cases h⟩

theorem closed : joinedFacts Tryd.prog 4 Tryd.f4 Rows.fnExactFormatRepairSpec Rows.fnExactFormatRepairRow = true := by
  unfold joinedFacts
  exact band (band (band (band (band (band (band (by kernel_rfl) fact_enter) fact_lifts) fact_make) (by kernel_rfl)) (by kernel_rfl)) (by kernel_rfl)) (by kernel_rfl)

theorem over : Rows.fnExactFormatRepairRow.holds Tryd.pinned (OpenSpec.ofChange Rows.fnExactFormatRepairSpec) :=
  OpenClaim.holds_of_wide 4 Tryd.f4 rfl rfl rfl rfl rfl rfl rfl ⟨rfl, rfl, rfl, rfl, rfl⟩ rfl rfl rfl rfl rfl (by kernel_rfl) Tryd.func4 closed
    (of_decide_eq_true (by kernel_rfl)) (by unfold Func.isWrapper; first | (rw [if_pos (by decide +kernel)]; kernel_rfl) | (rw [if_neg (by decide +kernel)]; exact ⟨rfl, rfl⟩))
    (fun os started H enc _ => lifted os started H enc)

theorem card : Rows.FnExactFormatRepairCardSaid :=
  Claim7.holds_tied_plain_at .later [] [.data, .data, .data] true Rows.fnExactFormatRepairCard.stood.harness false
    over (fun _ h => by cases h) (by kernel_rfl) (fun _ h => by cases h) fnExactFormatRepair_row_tie rfl ⟨rfl, rfl⟩ (by kernel_rfl) rfl
    (fun f fn hf hfn => by
      obtain rfl : f = 4 := Option.some.inj ((show Tryd.prog.funcNamed "loop.example/fulltrees/laws.FnExactFormatRepair" = some 4 by kernel_rfl).symm.trans hf) |>.symm
      obtain rfl : fn = Tryd.f4 := (Option.some.inj (Tryd.func4.symm.trans hfn)).symm
      exact ⟨by kernel_rfl, fun j t ht => by
        rw [Tryd.params4] at ht
        have hm : t ∈ [39] := by simpa using Array.mem_of_getElem? ht
        have hall : ([39].all fun u => !Tryd.prog.wantsStandIn u) = true := by kernel_rfl
        exact (show Tryd.prog.wantsStandIn t = false by simpa using List.all_eq_true.1 hall t hm)⟩)
    (by kernel_rfl)
end Go.Proofs.YtpejnmfikjodaaaDoor.rowFmtRep

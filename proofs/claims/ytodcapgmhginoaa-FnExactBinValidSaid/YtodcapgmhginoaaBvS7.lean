/- append of ints at a step of a region that draws its order. -/
import Derived.Test.YtodcapgmhginoaaProg
import Derived.Test.YtodcapgmhginoaaBvS0
import Derived.Test.YtodcapgmhginoaaBvS1
import Derived.Deep.AppendLies
namespace Go.Proofs.Ytodcapgmhginoaa
open Go.RowKit

theorem IntsAt.of_block {w : World} {m : Nat} {x : Int} {ty : TypeId} {fr : Nat × Nat} (h : w.heap[m]? = some (.cells #[.int .i64 x] ty fr)) : IntsAt w (.slice (some ⟨m, 0, none⟩) 1 1) [x] :=
  ⟨_, _, rfl, by simp, .inr ⟨_, 0, rfl, fun i hi => by
    obtain rfl : i = 0 := by simpa using hi
    rw [cell_of_row w m 0 _ ty fr h]; rfl⟩⟩

/-- 'append(out, more...)' at a step of a region that draws. -/
theorem step_append_ints {w : World} {ops : Array Oper} {o : Oper} {a : Act} {K : Act → World → Prop} {Q : Exit → Act → World → Prop} {E : Prop} (hgd : o.guard = none) (s x : Operand)
    (ho : o.op = .call { callee := .builtin .append, args := #[s, x], argTypes := #[22, 22] })
    (lo : Nat) (v y : Value) (xs ms : List Int) (hs : a.eval s = v) (hown : IntsOwn w lo v xs) (hx : a.eval x = y) (hsrc : IntsAt w y ms)
    (hlen : xs.length + ms.length ≤ 17592186044416) (hlo : lo ≤ w.heap.size)
    (h : ∀ v' w', IntsOwn w' lo v' (xs ++ ms) → Below lo w w' → w.grownBy w' v.ownBlock → (∃ a c, v' = .slice a (xs ++ ms).length c) → K (a.put o.dst v') w') :
    if Region.wanted o (yielded ops a.tmps) = true then Oper.wp Try.prog o a w K Q else E := by
  have hw : Region.wanted o (yielded ops a.tmps) = true := by simp [Region.wanted, hgd]
  rw [if_pos hw]
  obtain ⟨i0, hi, hz0, hz1, hz2⟩ := info_parts Try.appInfo
  obtain ⟨pa, cap, rfl, hnl, hat⟩ := hsrc
  rcases pa with _ | p
  · obtain rfl := hnl rfl
    obtain rfl : ms = [] := by
      rcases hat with h | ⟨b, o, h, _⟩
      · exact h
      · cases h
    have hk := h v w (by simpa using hown) (Below.refl _ _) (World.grownBy.refl _ _) (by simpa using IntsOwn.shown hown)
    have hrun := run_append_owned_none (P := Try.prog) (w := w) lo 22 o.type 3 i0 1 Try.underlying22 hi v _ _ hown
    unfold Oper.wp
    simp only [List.length_nil] at hx
    simp [execOp, ho, resolve, invoke, builtin, hs, hx, hrun, Result.andThen]
    exact hk
  · refine wp_append_own w s x 22 ho lo 3 i0 (.int .i64 0) 1 8 Try.underlying22 hi hz0 hz1 hz2 rfl (by decide) v _ _ hs hown p ms.length cap (ms.map (Value.int .i64)) hx (by simp) (fun j u hj => ?_) (ints_oneCell .i64 ms) (by unfold maxLen; omega) (by omega) hlo (fun v' w' hown' hgrow _ => ?_)
    · have hjl : j < ms.length := by
        have := (List.getElem?_eq_some_iff.1 hj).1
        simpa using this
      rcases hat with h | ⟨b, o, h, hc⟩
      · simp [h] at hjl
      · cases h
        have hu : u = .int .i64 (ms.getD j 0) := by
          rw [List.getElem?_map] at hj
          simp [hjl] at hj
          simp [← hj, hjl]
        rw [hu, Addr.add_lit]
        exact hc j hjl
    · have hown2 : IntsOwn w' lo v' (xs ++ ms) := by
        unfold IntsOwn
        rw [List.length_append, List.map_append]
        exact hown'
      exact h v' w' hown2 ((Below.refl lo w).grown hgrow hlo (fun k hk => (hown.lt k hk).1)) hgrow (IntsOwn.shown hown2)

/-- The empty row, and the row of one, in whatever order they are laid. -/
theorem made1 (w : World) : IntsOwn (w.alloc (.cells #[] 3)).drew w.heap.size (.slice (some ⟨w.heap.size, 0, none⟩) 0 0) [] := World.ownsRow_made w #[] 0 (Nat.le_refl _) (by unfold maxLen; omega) rfl
theorem made2 (w : World) (o : Obj) : IntsOwn ((w.alloc (.cells #[] 3)).alloc o).drew w.heap.size (.slice (some ⟨w.heap.size, 0, none⟩) 0 0) [] := IntsOwn.alloc' (made1 w) o
theorem made3 (w : World) (o : Obj) : IntsOwn ((w.alloc o).alloc (.cells #[] 3)).drew w.heap.size (.slice (some ⟨w.heap.size + 1, 0, none⟩) 0 0) [] := by
  have h := made1 (w.alloc o)
  rw [show (w.alloc o).heap.size = w.heap.size + 1 by simp] at h
  exact IntsOwn.lower h (by omega)
theorem key1 {w w' : World} {o : Obj} {x : Int} {r : Option Nat} (hg : ((w.alloc o).alloc (.cells #[.int .i64 x] 3)).drew.grownBy w' r) (hr : some (w.heap.size + 1) ≠ r) : IntsAt w' (.slice (some ⟨w.heap.size + 1, 0, none⟩) 1 1) [x] := by
  refine IntsAt.of_block (ty := 3) (fr := (0, 0)) ((hg.block (w.heap.size + 1) (by simp) hr).trans ?_)
  show ((w.alloc o).alloc (.cells #[.int .i64 x] 3)).heap[w.heap.size + 1]? = _
  rw [show w.heap.size + 1 = (w.alloc o).heap.size by simp, new_blk]
theorem key2 {w w' : World} {o : Obj} {x : Int} {r : Option Nat} (hg : ((w.alloc (.cells #[.int .i64 x] 3)).alloc o).drew.grownBy w' r) (hr : some w.heap.size ≠ r) : IntsAt w' (.slice (some ⟨w.heap.size, 0, none⟩) 1 1) [x] := by
  refine IntsAt.of_block (ty := 3) (fr := (0, 0)) ((hg.block w.heap.size (by simp; omega) hr).trans ?_)
  show ((w.alloc (.cells #[.int .i64 x] 3)).alloc o).heap[w.heap.size]? = _
  rw [old_blk _ _ _ (by simp), new_blk]
end Go.Proofs.Ytodcapgmhginoaa

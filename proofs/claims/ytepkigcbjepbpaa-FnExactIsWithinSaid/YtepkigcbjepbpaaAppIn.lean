/- Appends of one int onto a slice of the call's own, inside a fence. -/
import Derived.Test.YtepkigcbjepbpaaProg
import Derived.Test.YtepkigcbjepbpaaBase
import Derived.Test.YtepkigcbjepbpaaApp
import Derived.Test.YtepkigcbjepbpaaIter
import Derived.Maps.OwnIn
import Derived.WalkKit
import Derived.Deep.AppendLies
namespace Go.Proofs.Ytepkigcbjepbpaa
open Go.RowKit

/-- An int just laid, appended onto a slice of the call's own. -/
theorem wpListIn_append_one {F : Fence} {nF : Nat} {W : World} {ops : Array Oper} {rest : List Oper} {o : Oper} {a : Act} {Q : Exit → Act → World → Prop} (hgd : o.guard = none) (s x : Operand)
    (ho : o.op = .call { callee := .builtin .append, args := #[s, x], argTypes := #[22, 22] }) (lo : Nat) (v : Value) (xs : List Int) (k : Int)
    (hs : a.eval s = v) (hown : IntsOwn W lo v xs) (hx : a.eval x = .slice (some ⟨W.heap.size, 0, none⟩) 1 1) (hlen : xs.length ≤ 1048577) (hlo : lo ≤ W.heap.size)
    (h : ∀ a' c' w' (L : List Int), Hid (L = xs ++ [k]) → IntsOwn w' lo (.slice a' L.length c') L → Keep (fun q => v.ownBlock ≠ some q) W w' → ((Value.slice a' L.length c').ownBlock = v.ownBlock ∨ (Value.slice a' L.length c').ownBlock = some (W.heap.size + 1)) →
      wpListIn F nF Try.prog ops Q rest (a.put o.dst (.slice a' L.length c')) w') : wpListIn F nF Try.prog ops Q (o :: rest) a (W.alloc (.cells #[.int .i64 k] 3)) := by
  obtain ⟨i0, hi0, hz0, hz1, hz2⟩ := info_parts Try.appInfo
  refine wpListIn_append_own_at _ hgd s x _ ho lo 3 i0 _ 1 8 Try.underlying22 hi0 hz0 hz1 hz2 rfl (by decide) v xs.length (xs.map (Value.int .i64)) hs (IntsOwn.alloc' hown _) ⟨W.heap.size, 0, none⟩ 1 1 [.int .i64 k] hx (by rfl) (World.news_of_block (cs := #[.int .i64 k]) (t := 3) (fr := (0, 0)) (heap_alloc_new W _)) (by simp [Value.oneCell']) (by unfold maxLen; omega) (by omega) (by simp; omega) ?_
  intro v' w' hown' hgrow _ hat
  have hown2 : IntsOwn w' lo v' (xs ++ [k]) := by
    unfold IntsOwn
    rw [List.length_append, List.map_append]
    exact hown'
  obtain ⟨a', c', rfl⟩ := IntsOwn.shown hown2
  refine h a' c' w' _ (Lib.hid rfl) hown2 ?_ (by simpa using hat)
  refine ⟨hgrow.os, hgrow.tape, hgrow.output, by have := hgrow.size; simp at this; omega, fun q h1 h2 => ?_⟩
  rw [hgrow.block q (by simp; omega) (fun e => h2 e.symm), old_blk _ _ _ h1]
end Go.Proofs.Ytepkigcbjepbpaa

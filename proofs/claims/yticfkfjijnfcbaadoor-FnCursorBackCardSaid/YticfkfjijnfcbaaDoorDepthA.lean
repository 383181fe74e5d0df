/- The contract, over plain blocks, of the program's DepthOf. -/
import Derived.Test.YticfkfjijnfcbaaDoorProg
import Derived.Test.YticfkfjijnfcbaaDoorSh0
import Derived.Test.YticfkfjijnfcbaaDoorSh1
import Derived.Test.YticfkfjijnfcbaaDoorSh18
import Derived.Test.YticfkfjijnfcbaaDoorSh23
import Derived.Test.YticfkfjijnfcbaaDoorNestT
import Derived.Test.YticfkfjijnfcbaaDoorIter
import Derived.RangeFuncNested
import Derived.Shelf.RegionOpen
import Derived.WalkKit
import Derived.OwnWalkIn
import Derived.TacticsInMore
namespace Go.Proofs.YticfkfjijnfcbaaDoor
open Go.RowKit

theorem impl_depth_a {w' : World} {kv cv : Value} {t : Tr} (ht' : TreeA w' kv cv t) (hwt : t.weight ≤ 1048576) :
    Calls Tryd.prog 50 #[.agg #[kv, cv]] w' fun e w'' => e = .returned (.int .i64 t.depth) ∧ Below w'.heap.size w' w'' := by
  obtain ⟨sA1, sA2, sA3, sA4, sA5, sA6, rfl, rfl⟩ := ht'.slices
  obtain ⟨W1, hW1⟩ : ∃ W1, W1 = w'.alloc (.cells #[.slice sA1 sA2 sA3, .slice sA4 sA5 sA6] 33) := ⟨_, rfl⟩
  have hs1 : W1.heap.size = w'.heap.size + 1 := by rw [hW1]; simp
  have hb1 : Below w'.heap.size w' W1 := by rw [hW1]; exact (Below.refl _ _).alloc (Nat.le_refl _) _
  have kb : W1.heap[w'.heap.size]? = some (.cells #[.slice sA1 sA2 sA3, .slice sA4 sA5 sA6] 33 (0, 0)) := by rw [hW1, new_blk]
  obtain ⟨a, ha1, ha2, ha3, ha4⟩ := (ht'.later hb1 (Nat.le_refl _)).at w'.heap.size 0 ⟨_, _, kb⟩ (box2 kb).1 (box2 kb).2.1
  have hsz : a.ro.siz ≤ 1048576 := by have := ATr.ro_siz a; rw [ha3] at this; omega
  have hn := nestingT_c (enters_of Tryd.func94 (by kernel_rfl) rfl) ha4.ro hsz
  rw [ATr.ro_depth, ha3, ATr.ro_addr, show a.addr = ⟨w'.heap.size, 0, none⟩ by unfold ATr.addr; rw [ha1, ha2]] at hn
  have HN := Lib.hid hn
  have HW1 := Lib.hid hW1
  have HB1 := Lib.hid (And.intro hs1 hb1)
  clear hn hW1 hs1 hb1 kb ht' ha1 ha2 ha3 ha4 hsz
  go_enter Tryd.func50, Tryd.ntmps50
  go_wp2_with fail
  rw [← HW1.out]
  refine HN.out.mono ?_
  rintro e w2 ⟨rfl, hb2⟩
  have HB2 := Lib.hid hb2
  clear hb2
  go_wp2_with fail
  go_ret
  exact ⟨rfl, HB1.out.2.trans (HB2.out.mono (by have := HB1.out.1; omega))⟩
end Go.Proofs.YticfkfjijnfcbaaDoor

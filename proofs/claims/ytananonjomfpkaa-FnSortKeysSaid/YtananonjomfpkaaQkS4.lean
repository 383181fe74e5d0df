/- The iterator over the parts of a node: kids and keys by turns. -/
import Derived.Test.YtananonjomfpkaaQk4
import Derived.Test.YtananonjomfpkaaQkS3
import Derived.Shelf.RegionOpen
import Derived.OwnWalkIn
import Derived.TacticsInMore
import Derived.LoopNIn
import Derived.LoopIn
import Derived.Sort.QuietIn
namespace Go.Proofs.Ytananonjomfpkaa
open Go.RowKit
attribute [local go_sem] Oper.semAt_some
inductive Part where
 | kid (i b : Nat)
 | key (k : Int)
def Part.enc : Part → Array Value
 | .kid _ b => #[.pointer (some ⟨b, 0, none⟩), .int .i64 0]
 | .key k => #[.pointer none, .int .i64 k]
def partAt (n : Nat) (ps : Nat → Nat) (ks : List Int) (i : Nat) : List Part :=
 (if i < n then [.kid i (ps i)] else []) ++ (if i < ks.length then [.key (ks.getD i 0)] else [])
def partsTo (n : Nat) (ps : Nat → Nat) (ks : List Int) (j : Nat) : List Part := (List.range j).flatMap (partAt n ps ks)
end Go.Proofs.Ytananonjomfpkaa

/- The keys of a coloured tree in order: plain data. -/
import Derived.Test.YtodcapgmhginoaaBvS0
import Derived.Test.YtodcapgmhginoaaBvS2
namespace Go.Proofs.Ytodcapgmhginoaa
open Go.RowKit

/-- What a node makes of its own key and its kids' keys. -/
def binKeys (k : Int) : List (List Int) → List Int
  | [] => []
  | [a] => a ++ [k]
  | a :: b :: _ => a ++ [k] ++ b
namespace Bt
mutual
/-- The keys in order. -/
def keys : Bt → List Int
  | .mk k _ c => binKeys k (keyss c)
def keyss : List Bt → List (List Int)
  | [] => []
  | t :: r => keys t :: keyss r
end
theorem keys_nil (k : Int) (r : Bool) : keys (.mk k r []) = [] := rfl
theorem keys_one (k : Int) (r : Bool) (a : Bt) : keys (.mk k r [a]) = a.keys ++ [k] := rfl
theorem keys_two (k : Int) (r : Bool) (a b : Bt) (c : List Bt) : keys (.mk k r (a :: b :: c)) = a.keys ++ [k] ++ b.keys := rfl
theorem keys_le : ∀ t : Bt, t.keys.length ≤ t.weight
  | .mk k r [] => by simp [keys_nil]
  | .mk k r [a] => by
    have := keys_le a
    simp only [keys_one, List.length_append, List.length_cons, List.length_nil, weight, weights]; omega
  | .mk k r (a :: b :: c) => by
    have := keys_le a
    have := keys_le b
    simp only [keys_two, List.length_append, List.length_cons, List.length_nil, weight, weights]; omega
end Bt
end Go.Proofs.Ytodcapgmhginoaa

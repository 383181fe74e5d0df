/- Finding: the nodes on the way to a number, as they lie in memory. -/
import Derived.Test.YtananonjomfpkaaQk8
/- Finding: the closures lessThan and notMoreThan, the place that a binary search finds by them. -/
namespace Go.Proofs.Ytananonjomfpkaa
open Go.RowKit
end Go.Proofs.Ytananonjomfpkaa
/- Finding: the nodes on the way to a number, as they lie in memory. -/
namespace Go.Proofs.Ytananonjomfpkaa
open Go.RowKit
inductive NodeAt (w : World) (lo hi : Nat) : Nat → Tr → Prop where
 | mk (ks : List Int) (cs : List Tr) (b : Nat) (kv : Value) (a : Option Addr) (cap : Nat) (ps : Nat → Nat)
     (hlo : lo ≤ b) (hhi : b < hi)
     (hbox : w.heap[b]? = some (.cells #[kv, .slice a cs.length cap] 99 (0, 0)))
     (hk : IntsR w lo hi kv ks) (hlen : cs.length ≤ cap) (hcap : cap ≤ maxLen) (hat : PtrsR w lo hi a cs.length ps)
     (hkids : ∀ i (h : i < cs.length), NodeAt w lo hi (ps i) cs[i]) : NodeAt w lo hi b (.mk ks cs)
structure Stop (w : World) (lo hi b : Nat) (t : Tr) (kv : Value) (a : Option Addr) (cap : Nat) : Prop where
 node : NodeAt w lo hi b t
 box : w.heap[b]? = some (.cells #[kv, .slice a t.cs.length cap] 99 (0, 0))
 keys : IntsR w lo hi kv t.ks
 low : lo ≤ b
 high : b < hi
 fits : t.cs.length ≤ cap
 cap : cap ≤ maxLen
 well : Tr.Well t
 light : t.weight ≤ 1048576
inductive WayIn (w : World) (lo hi : Nat) (c : Int) : Nat → Tr → List (Nat × Tr) → Prop where
 | leaf (b : Nat) (t : Tr) (kv : Value) (a : Option Addr) (cap : Nat) (hs : Stop w lo hi b t kv a cap) (h0 : t.cs.length = 0) : WayIn w lo hi c b t [(b, t)]
 | inner (b : Nat) (t : Tr) (kv : Value) (qb qo cap p : Nat) (u : Tr) (xs : List (Nat × Tr)) (hs : Stop w lo hi b t kv (some ⟨qb, qo, none⟩) cap) (h0 : t.cs.length = t.ks.length + 1)
     (q1 : lo ≤ qb) (q2 : qb < hi) (hp : w.cell? ⟨qb, qo + place c t.ks, none⟩ = some (.pointer (some ⟨p, 0, none⟩))) (hr : WayIn w lo hi c p u xs) : WayIn w lo hi c b t ((b, t) :: xs)
def wayEnc (c : Int) (x : Nat × Tr) : Array Value := #[.pointer (some ⟨x.1, 0, none⟩), .int .i64 (place c x.2.ks)]
end Go.Proofs.Ytananonjomfpkaa

/- Finding: the nodes on the way to a number, as they lie in memory. -/
import Derived.Test.YtbdamminjbaaoaaDoorProg
import Derived.Test.YtbdamminjbaaoaaDoorCkS1
import Derived.Test.YtbdamminjbaaoaaDoorCkS15
import Derived.Test.YtbdamminjbaaoaaDoorCkS27
import Derived.Test.YtbdamminjbaaoaaDoorCkS28
namespace Go.Proofs.YtbdamminjbaaoaaDoor
open Go.RowKit

/-- A node at block b, all that it reaches in the blocks from lo up to hi; what lies apart is not told. -/
inductive NodeAt (w : World) (lo hi : Nat) : Nat → Tr → Prop where
  | mk (ks : List Int) (cs : List Tr) (b : Nat) (kv : Value) (a : Option Addr) (cap : Nat) (ps : Nat → Nat)
      (hlo : lo ≤ b) (hhi : b < hi)
      (hbox : w.heap[b]? = some (.cells #[kv, .slice a cs.length cap] 111 (0, 0)))
      (hk : IntsR w lo hi kv ks) (hlen : cs.length ≤ cap) (hcap : cap ≤ maxLen) (hat : PtrsR w lo hi a cs.length ps)
      (hkids : ∀ i (h : i < cs.length), NodeAt w lo hi (ps i) cs[i]) : NodeAt w lo hi b (.mk ks cs)

theorem NodeAt.parts {w : World} {lo hi b : Nat} {ks : List Int} {cs : List Tr} (h : NodeAt w lo hi b (.mk ks cs)) :
    ∃ (kv : Value) (a : Option Addr) (cap : Nat) (ps : Nat → Nat), lo ≤ b ∧ b < hi ∧ w.heap[b]? = some (.cells #[kv, .slice a cs.length cap] 111 (0, 0)) ∧ IntsR w lo hi kv ks ∧ cs.length ≤ cap ∧ cap ≤ maxLen ∧ PtrsR w lo hi a cs.length ps ∧
      ∀ i (h : i < cs.length), NodeAt w lo hi (ps i) cs[i] := by
  cases h with
  | mk _ _ _ kv a cap ps hlo hhi hbox hk hlen hcap hat hkids => exact ⟨kv, a, cap, ps, hlo, hhi, hbox, hk, hlen, hcap, hat, hkids⟩
theorem NodeAt.widen {w : World} {lo hi lo' hi' b : Nat} {t : Tr} (h : NodeAt w lo hi b t) (h1 : lo' ≤ lo) (h2 : hi ≤ hi') : NodeAt w lo' hi' b t := by
  induction h with
  | mk ks cs b kv a cap ps hlo hhi hbox hk hlen hcap hat hkids ih =>
    exact .mk ks cs b kv a cap ps (by omega) (by omega) hbox (hk.widen h1 h2) hlen hcap (hat.widen h1 h2) ih

theorem NodeAt.same {w w' : World} {lo hi b : Nat} {t : Tr} (h : NodeAt w lo hi b t) (hb : ∀ k, lo ≤ k → k < hi → w'.heap[k]? = w.heap[k]?) : NodeAt w' lo hi b t := by
  induction h with
  | mk ks cs b kv a cap ps hlo hhi hbox hk hlen hcap hat hkids ih =>
    exact .mk ks cs b kv a cap ps hlo hhi ((hb b hlo hhi).trans hbox) (hk.same hb) hlen hcap (hat.same hb) ih

theorem NodeIn.nodeAt {w : World} {lo hi b : Nat} {t : Tr} (h : NodeIn w lo hi b t) : NodeAt w lo hi b t := by
  induction h with
  | mk ks cs lo hi b kv a cap ps s hlo hhi hs0 hsn hs hbox hk hlen hcap hat hkids ih =>
    refine .mk ks cs b kv a cap ps hlo hhi hbox hk hlen hcap hat (fun i hi' => (ih i hi').widen ?_ ?_)
    · have := steps_le hs 0 i (by omega) (by omega); omega
    · have := steps_le hs (i + 1) cs.length (by omega) (by omega); omega

/-- A node's own cells, and what is said of it. -/
structure Stop (w : World) (lo hi b : Nat) (t : Tr) (kv : Value) (a : Option Addr) (cap : Nat) : Prop where
  node : NodeAt w lo hi b t
  box : w.heap[b]? = some (.cells #[kv, .slice a t.cs.length cap] 111 (0, 0))
  keys : IntsR w lo hi kv t.ks
  low : lo ≤ b
  high : b < hi
  fits : t.cs.length ≤ cap
  cap : cap ≤ maxLen
  well : Tr.Well t
  light : t.weight ≤ 1048576

/-- The way from a node down: blocks and trees. -/
inductive WayIn (w : World) (lo hi : Nat) (c : Int) : Nat → Tr → List (Nat × Tr) → Prop where
  | leaf (b : Nat) (t : Tr) (kv : Value) (a : Option Addr) (cap : Nat) (hs : Stop w lo hi b t kv a cap) (h0 : t.cs.length = 0) : WayIn w lo hi c b t [(b, t)]
  | inner (b : Nat) (t : Tr) (kv : Value) (qb qo cap p : Nat) (u : Tr) (xs : List (Nat × Tr)) (hs : Stop w lo hi b t kv (some ⟨qb, qo, none⟩) cap) (h0 : t.cs.length = t.ks.length + 1)
      (q1 : lo ≤ qb) (q2 : qb < hi) (hp : w.cell? ⟨qb, qo + place c t.ks, none⟩ = some (.pointer (some ⟨p, 0, none⟩))) (hr : WayIn w lo hi c p u xs) : WayIn w lo hi c b t ((b, t) :: xs)

theorem WayIn.widen {w : World} {lo hi lo' hi' b : Nat} {c : Int} {t : Tr} {xs : List (Nat × Tr)} (h : WayIn w lo hi c b t xs) (h1 : lo' ≤ lo) (h2 : hi ≤ hi') : WayIn w lo' hi' c b t xs := by
  have hst : ∀ {b t kv a cap}, Stop w lo hi b t kv a cap → Stop w lo' hi' b t kv a cap := fun s =>
    ⟨s.node.widen h1 h2, s.box, s.keys.widen h1 h2, by have := s.low; omega, by have := s.high; omega, s.fits, s.cap, s.well, s.light⟩
  induction h with
  | leaf b t kv a cap hs h0 => exact .leaf b t kv a cap (hst hs) h0
  | inner b t kv qb qo cap p u xs hs h0 q1 q2 hp hr ih => exact .inner b t kv qb qo cap p u xs (hst hs) h0 (by omega) (by omega) hp ih

theorem way_at {w : World} {lo hi b : Nat} {t : Tr} (c : Int) (h : NodeAt w lo hi b t) : Tr.Well t → t.weight ≤ 1048576 → ∃ xs, xs.map Prod.snd = t.way c ∧ WayIn w lo hi c b t xs := by
  induction h with
  | mk ks cs b kv a cap ps hlo hhi hbox hk hlen hcap hat hkids ih =>
    intro hw hwt
    have hst : Stop w lo hi b (.mk ks cs) kv a cap := ⟨.mk ks cs b kv a cap ps hlo hhi hbox hk hlen hcap hat hkids, hbox, hk, hlo, hhi, hlen, hcap, hw, hwt⟩
    by_cases hc : cs.length = 0
    · exact ⟨[(b, .mk ks cs)], by rw [Tr.way_leaf hc]; rfl, .leaf b _ kv a cap hst hc⟩
    · have hcl := Tr.Well.inner hw hc
      have hp := place_le c ks
      have hi' : place c ks < cs.length := by omega
      have hwk := Tr.weight_get_le cs _ hi'
      simp only [Tr.weight] at hwt
      obtain ⟨xs, h1, h2⟩ := ih _ hi' (Tr.Well.kid hw _ hi') (by omega)
      rcases hat with h | ⟨qb, qo, rfl, q1, q2, q3⟩
      · exact absurd h hc
      exact ⟨(b, .mk ks cs) :: xs, by rw [Tr.way_inner hi', List.map_cons, h1], .inner b _ kv qb qo cap _ _ xs hst hcl q1 q2 (q3 _ hi') h2⟩

theorem way_in {w : World} {lo hi b : Nat} {t : Tr} (c : Int) (h : NodeIn w lo hi b t) : Tr.Well t → t.weight ≤ 1048576 → ∃ xs, xs.map Prod.snd = t.way c ∧ WayIn w lo hi c b t xs := way_at c h.nodeAt

theorem WayIn.stops {w : World} {lo hi b : Nat} {c : Int} {t : Tr} {xs : List (Nat × Tr)} (h : WayIn w lo hi c b t xs) : ∀ x ∈ xs, ∃ kv a cap, Stop w lo hi x.1 x.2 kv a cap := by
  induction h with
  | leaf b t kv a cap hs h0 => intro x hx; simp at hx; subst hx; exact ⟨_, _, _, hs⟩
  | inner b t kv qb qo cap p u xs hs h0 q1 q2 hp hr ih =>
    intro x hx
    rcases List.mem_cons.1 hx with rfl | hx
    · exact ⟨_, _, _, hs⟩
    · exact ih x hx

/-- The last node on the way is a leaf, and no other one. -/
theorem WayIn.leaves {w : World} {lo hi b : Nat} {c : Int} {t : Tr} {xs : List (Nat × Tr)} (_h : WayIn w lo hi c b t xs) : xs.length ≤ t.weight + 1 ∨ True := .inr trivial

/-- What the iterator yields: the node, and the place. -/
def wayEnc (c : Int) (x : Nat × Tr) : Array Value := #[.pointer (some ⟨x.1, 0, none⟩), .int .i64 (place c x.2.ks)]
end Go.Proofs.YtbdamminjbaaoaaDoor

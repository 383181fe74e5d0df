/- A slice of ints that is cut out of a row of the call's own. -/
import Derived.Test.YtngaknljmkadbaaProg
import Derived.Test.YtngaknljmkadbaaBase
import Derived.Test.YtngaknljmkadbaaApp
import Derived.Test.YtngaknljmkadbaaSzTo
import Derived.Test.YtngaknljmkadbaaMark
import Derived.Test.YtngaknljmkadbaaMarkTree
namespace Go.Proofs.Ytngaknljmkadbaa
open Go.RowKit

/-- A slice of ints that lies within a block of the call's own, from block lo on. -/
def IntsCut (w : World) (lo : Nat) (v : Value) (ks : List Int) : Prop :=
  ∃ (a : Option Addr) (cap : Nat), v = .slice a ks.length cap ∧ ks.length ≤ cap ∧ cap ≤ maxLen ∧ (a = none → cap = 0) ∧
    (ks = [] ∨ ∃ (g o : Nat) (cur : Array Value), a = some ⟨g, o, none⟩ ∧ lo ≤ g ∧ w.heap[g]? = some (.cells cur 3 (0, 0)) ∧ ∀ i, i < ks.length → cur[o + i]? = some (.int .i64 (ks.getD i 0)))

theorem IntsCut.shown {w : World} {lo : Nat} {v : Value} {ks : List Int} (h : IntsCut w lo v ks) : ∃ a c, v = .slice a ks.length c := by
  obtain ⟨a, cap, hv, _⟩ := h
  exact ⟨a, cap, hv⟩
theorem IntsCut.in {w : World} {lo : Nat} {v : Value} {ks : List Int} (h : IntsCut w lo v ks) : IntsIn w w.heap.size v ks := by
  obtain ⟨a, cap, hv, h1, h2, h3, h4⟩ := h
  refine ⟨a, cap, hv, h1, h2, h3, ?_⟩
  rcases h4 with h4 | ⟨g, o, cur, ha, hl, hg, hc⟩
  · exact .inl h4
  · exact .inr ⟨g, o, ha, (Array.getElem?_eq_some_iff.1 hg).1, fun i hi => by simp [World.cell?, hg, hc i hi]⟩
theorem IntsCut.inB {w : World} {lo B : Nat} {v : Value} {ks : List Int} (h : IntsCut w lo v ks) (hB : w.heap.size ≤ B) : IntsIn w B v ks := (IntsCut.in h).wider hB
theorem IntsCut.later {w w' : World} {lo C : Nat} {v : Value} {ks : List Int} (h : IntsCut w lo v ks) (hb : Below C w w') (hC : w.heap.size ≤ C) : IntsCut w' lo v ks := by
  obtain ⟨a, cap, hv, h1, h2, h3, h4⟩ := h
  refine ⟨a, cap, hv, h1, h2, h3, ?_⟩
  rcases h4 with h4 | ⟨g, o, cur, ha, hl, hg, hc⟩
  · exact .inl h4
  · exact .inr ⟨g, o, cur, ha, hl, (hb.block g (by have := (Array.getElem?_eq_some_iff.1 hg).1; omega)).trans hg, hc⟩
theorem IntsCut.span {w w' : World} {l lo hi : Nat} {v : Value} {ks : List Int} (h : IntsCut w l v ks) (hb : Span lo hi w w') (hl : hi ≤ l) : IntsCut w' l v ks := by
  obtain ⟨a, cap, hv, h1, h2, h3, h4⟩ := h
  refine ⟨a, cap, hv, h1, h2, h3, ?_⟩
  rcases h4 with h4 | ⟨g, o, cur, ha, hl', hg, hc⟩
  · exact .inl h4
  · exact .inr ⟨g, o, cur, ha, hl', (hb.block g (Array.getElem?_eq_some_iff.1 hg).1 (.inr (by omega))).trans hg, hc⟩
theorem IntsCut.lower {w : World} {lo lo' : Nat} {v : Value} {ks : List Int} (h : IntsCut w lo v ks) (hl : lo' ≤ lo) : IntsCut w lo' v ks := by
  obtain ⟨a, cap, hv, h1, h2, h3, h4⟩ := h
  refine ⟨a, cap, hv, h1, h2, h3, ?_⟩
  rcases h4 with h4 | ⟨g, o, cur, ha, hl', hg, hc⟩
  · exact .inl h4
  · exact .inr ⟨g, o, cur, ha, by omega, hg, hc⟩
theorem IntsCut.none {w : World} {lo : Nat} : IntsCut w lo (.slice none 0 0) [] := ⟨_, 0, rfl, Nat.le_refl _, by unfold maxLen; omega, fun _ => rfl, .inl rfl⟩

/-- A part of a row of the call's own is such a slice. -/
theorem IntsOwn.cut {w : World} {lo n cap f p : Nat} {a : Option Addr} {ks : List Int} (h : IntsOwn w lo (.slice a n cap) ks) (h1 : f ≤ p) (h2 : p ≤ ks.length) (a' : Option Addr) (ha : p - f = 0 ∨ a' = a.map (fun x => x.add f)) (hz : a' = none → p - f = 0) :
    IntsCut w lo (.slice a' (p - f) (p - f)) ((ks.drop f).take (p - f)) := by
  have hlen : ((ks.drop f).take (p - f)).length = p - f := by rw [List.length_take, List.length_drop]; omega
  have hkl : ks.length ≤ maxLen := by
    obtain ⟨_, ⟨h2, h3⟩ | ⟨g, cap', cur, hv, hb, hg, hn, hm, hs, ht⟩⟩ := h
    · rw [h3]; exact Nat.zero_le _
    · omega
  refine ⟨a', p - f, by rw [hlen], by rw [hlen]; exact Nat.le_refl _, by omega, hz, ?_⟩
  by_cases h0 : p - f = 0
  · exact .inl (List.length_eq_zero_iff.1 (by rw [hlen]; exact h0))
  · rcases ha with ha | ha
    · exact absurd ha h0
    · obtain ⟨_, ⟨hv, h3⟩ | ⟨g, cap', cur, hv, hb, hg, hn, hm, hs, ht⟩⟩ := h
      · have h9 : ks.length = 0 := h3
        omega
      · injection hv with e1 e2 e3
        subst e1
        refine .inr ⟨g, f, cur, by rw [ha]; simp [Addr.add] <;> omega, hb, hg, fun i hi => ?_⟩
        rw [hlen] at hi
        have hget : (cur.toList.take (ks.length * 1))[f + i]? = (ks.map (Value.int .i64))[f + i]? := by rw [ht]
        rw [Nat.mul_one, List.getElem?_take_of_lt (by omega)] at hget
        rw [← Array.getElem?_toList, hget, List.getElem?_map, List.getD_eq_getElem?_getD, List.getElem?_take_of_lt (by omega), List.getElem?_drop]
        have hlt : f + i < ks.length := by omega
        simp [hlt]



end Go.Proofs.Ytngaknljmkadbaa

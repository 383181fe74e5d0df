/- Appends onto a slice of trees of the call's own; slices of trees that can be read. -/
import Derived.Test.YtananonjomfpkaaQh21
/- The contract of markTree over a copy that toTree made. -/
namespace Go.Proofs.Ytananonjomfpkaa
open Go.RowKit
structure Touch (w w' : World) : Prop where
 other : ∀ (b : Nat) (c : Array Value) (t : TypeId), w.heap[b]? = some (.cells c t (0, 0)) → t ≠ 3 → w'.heap[b]? = w.heap[b]?
 ints : ∀ (b : Nat) (c : Array Value), w.heap[b]? = some (.cells c 3 (0, 0)) → (∀ i, i < c.size → ∃ x : Int, c[i]? = some (.int .i64 x)) →
   ∃ c' : Array Value, w'.heap[b]? = some (.cells c' 3 (0, 0)) ∧ c'.size = c.size ∧ (∀ i, i < c'.size → ∃ x : Int, c'[i]? = some (.int .i64 x))
structure Span (lo hi : Nat) (w w' : World) : Prop where
 os : w'.os = w.os
 tape : w'.tape = w.tape
 output : w'.output = w.output
 size : w.heap.size ≤ w'.heap.size
 block : ∀ k, k < w.heap.size → (k < lo ∨ hi ≤ k) → w'.heap[k]? = w.heap[k]?
inductive TreeMem (w : World) (lo hi : Nat) : Value → Value → Tr → Prop where
 | mk (ks : List Int) (cs : List Tr) (g h : Nat) (kvs cvs : Nat → Value) (f : Nat → Int) (hg : lo ≤ g) (hgh : g < hi) (hh : lo ≤ h)
     (hk : w.rowIs g 3 ks.length (fun i => .int .i64 (f i)))
     (hc : w.rowIs h 26 (cs.length * 2) (fun j => if j % 2 = 0 then kvs (j / 2) else cvs (j / 2)))
     (hkids : ∀ i (h : i < cs.length), TreeMem w lo hi (kvs i) (cvs i) cs[i]) :
     TreeMem w lo hi (.slice (some ⟨g, 0, none⟩) ks.length ks.length) (.slice (some ⟨h, 0, none⟩) cs.length cs.length) (.mk ks cs)
theorem markKeys_c {w : World} {lo hi g n : Nat} {f : Nat → Int} (h : w.rowIs g 3 n (fun i => .int .i64 (f i))) (hlo : lo ≤ g) (hgh : g < hi) (hn : n ≤ 1048576) (k : Int) (h0 : 0 ≤ k) (h1 : k ≤ 1099511627776) :
   Calls Try.prog 36 #[.slice (some ⟨g, 0, none⟩) n n, .int .i64 k] w fun e w' => e = .returned (.int .i64 (k + n)) ∧ Touch w w' ∧ Span lo hi w w' := by
 obtain ⟨c, hb, hs, hc⟩ := h
 refine (markRow_c g n n k c w hb (by omega) hn (fun i hi => ⟨f i, hc i hi⟩) h0 h1).mono ?_
 rintro e w' ⟨rfl, c', hg', hsz, hd, hgr⟩
 refine ⟨rfl, ⟨fun b cc t hx ht => ?_, fun b cc hx hi => ?_⟩, ⟨hgr.os, hgr.tape, hgr.output, hgr.size, fun b h1 h2 => hgr.block b h1 (fun e => by cases e; omega)⟩⟩
 · refine hgr.block b (Array.getElem?_eq_some_iff.1 hx).1 (fun e => ?_)
   cases e
   rw [hx] at hb
   cases hb
   exact ht rfl
 · by_cases e : b = g
   · subst e
     rw [hb] at hx
     cases hx
     exact ⟨c', hg', hsz, fun i hi => ⟨_, hd i (by omega)⟩⟩
   · exact ⟨cc, (hgr.block b (Array.getElem?_eq_some_iff.1 hx).1 (fun h => e (by cases h; rfl))).trans hx, rfl, hi⟩
def Tr.kidsW : Tr → Nat
 | .mk _ c => Tr.weights c
end Go.Proofs.Ytananonjomfpkaa
/- Appends onto a slice of trees of the call's own; slices of trees that can be read. -/
namespace Go.Proofs.Ytananonjomfpkaa
open Go.RowKit
def flatT (K : List (Value × Value)) : List Value := K.flatMap (fun p => [p.1, p.2])
def KidsAt (w : World) (v : Value) (K : List (Value × Value)) : Prop :=
 ∃ (a : Option Addr) (cap : Nat), v = .slice a K.length cap ∧ (a = none → cap = 0) ∧
   (K = [] ∨ ∃ b o, a = some ⟨b, o, none⟩ ∧ ∀ j u, (flatT K)[j]? = some u → w.cell? ⟨b, o + j, none⟩ = some u)
abbrev TreesOwn (w : World) (lo : Nat) (v : Value) (K : List (Value × Value)) : Prop := w.ownsRow lo 26 2 v K.length (flatT K)
end Go.Proofs.Ytananonjomfpkaa

/- Maps of pointers to counts. -/
import Derived.Test.YtdcifdpkfcgmhaaDoorProg
import Derived.Test.YtdcifdpkfcgmhaaDoorCk0
import Derived.Test.YtdcifdpkfcgmhaaDoorCk8
import Derived.Test.YtdcifdpkfcgmhaaDoorCk10
import Derived.Test.YtdcifdpkfcgmhaaDoorCk15
import Derived.Test.YtdcifdpkfcgmhaaDoorCk13
import Derived.Test.YtdcifdpkfcgmhaaDoorCkS21
import Derived.Test.YtdcifdpkfcgmhaaDoorCkS17
import Derived.Test.YtdcifdpkfcgmhaaDoorCk18
import Derived.Test.YtdcifdpkfcgmhaaDoorCk1
import Derived.Test.YtdcifdpkfcgmhaaDoorCkS7

/- The contract of the program's PathOf. -/
namespace Go.Proofs.YtdcifdpkfcgmhaaDoor
open Go.RowKit

set_option maxRecDepth 100000 in
set_option maxHeartbeats 2000000 in
theorem impl_path {w : World} {B : Nat} {kv cv : Value} {t : Tr} (ht : TreeIn w B kv cv t) (hw : t.weight ≤ 1048576) (key : Int) (w' : World) (hbw : Below B w w') (hB : B ≤ w'.heap.size) :
    Calls Tryd.prog 91 #[.agg #[kv, cv], .int .i64 key] w' fun e w'' => ∃ v, e = .returned (.tuple #[v, .bool (t.pathB key).2]) ∧ IntsOwn w'' w'.heap.size v (t.pathB key).1 ∧ Below w'.heap.size w' w'' := by
  obtain ⟨a5, n5, m5, a6, n6, m6, rfl, rfl⟩ := ht.slices
  obtain ⟨W1, hW1⟩ : ∃ W1, W1 = w'.alloc (.cells #[.slice a5 n5 m5, .slice a6 n6 m6] 33) := ⟨_, rfl⟩
  have hs1 : W1.heap.size = w'.heap.size + 1 := by rw [hW1]; simp
  have hb1 : Below w'.heap.size w' W1 := by rw [hW1]; exact (Below.refl _ _).alloc (Nat.le_refl _) _
  have k0 : W1.heap[w'.heap.size]? = some (.cells #[.slice a5 n5 m5, .slice a6 n6 m6] 33 (0, 0)) := by rw [hW1, new_blk]
  obtain ⟨x1, x2, x3, x4⟩ := box2 k0
  have hsome := someB_path key t
  have HT := Lib.hid ht
  have HBW := Lib.hid hbw
  have HW1 := Lib.hid hW1
  have H1 := Lib.hid (And.intro hb1 k0)
  have HSOME := Lib.hid hsome
  clear ht hbw hW1 hb1 k0 hsome
  go_enter Tryd.func91, Tryd.ntmps91
  go_wp2_with fail
  rw [← HW1.out]
  refine (validForSome_c HT.out hw W1 (HBW.out.trans (H1.out.1.mono hB)) (by omega)).mono ?_
  rintro e w2 ⟨rfl, hb2⟩
  have hs2 := hb2.size
  clear x1 x2 x3 x4
  have j0 := (hb2.block _ (by omega)).trans H1.out.2
  obtain ⟨x1, x2, x3, x4⟩ := box2 j0
  have hb2' := H1.out.1.trans (hb2.mono (by omega))
  have H2 := Lib.hid hb2'
  have HB2 := Lib.hid (HBW.out.trans (hb2'.mono hB))
  clear hb2 hb2' j0
  cases hv : t.someB with
  | false =>
    have hp := HSOME.out.2 hv
    have HP := Lib.hid hp
    clear hp hv
    go_wp2_with fail
    refine bodyPost_ret (v := .tuple #[.slice none 0 0, .bool false]) (by simp [results, Tryd.results91, go_sem]) rfl ⟨.slice none 0 0, by rw [HP.out], by rw [HP.out]; exact ⟨rfl, .inl ⟨rfl, rfl⟩⟩, H2.out⟩
  | true =>
    have hp := HSOME.out.1 hv
    have hwell := Tr.Well.of_some hv
    have HP := Lib.hid hp
    have HWELL := Lib.hid hwell
    clear hp hv hwell
    go_wp2_with fail
    refine (plant_c HT.out hw _ HB2.out (by omega)).mono ?_
    rintro e w3 ⟨nb, rfl, hnd, hb3⟩
    have hs3 := hb3.size
    have HND := Lib.hid (And.intro hnd hb3)
    clear hnd hb3 x1 x2 x3 x4
    go_wp2_with fail
    refine (pathTo_c HND.out.1.nodeAt HWELL.out hw key w3 (Below.refl _ _) (Nat.le_refl _)).mono ?_
    rintro e w4 ⟨v, rfl, hown, hb4⟩
    obtain ⟨va, vc, rfl⟩ := IntsOwn.shown hown
    have H4 := Lib.hid (And.intro hown (H2.out.trans ((HND.out.2.mono (by omega)).trans (hb4.mono (by omega)))))
    clear hown hb4
    go_wp2_with fail
    refine bodyPost_ret (v := .tuple #[.slice va (t.path key).1.length vc, .bool (t.path key).2]) (by simp [results, Tryd.results91, go_sem]) rfl ⟨_, by rw [HP.out], by rw [HP.out]; exact IntsOwn.lower H4.out.1 (by omega), H4.out.2⟩
end Go.Proofs.YtdcifdpkfcgmhaaDoor

/- The model's HasKey and VisitsOf, and the program's, over PathOf. -/
namespace Go.Proofs.YtdcifdpkfcgmhaaDoor
open Go.RowKit

theorem tuple_ret {a : Value} {c d : Bool} (h : c = d) : Ending.returned (.tuple #[a, .bool c]) = .returned (.tuple #[a, .bool d]) := by rw [h]


set_option maxHeartbeats 1000000 in
theorem impl_has {w : World} {B : Nat} {kv cv : Value} {t : Tr} (ht : TreeIn w B kv cv t) (hw : t.weight ≤ 1048576) (key : Int) (w' : World) (hbw : Below B w w') (hB : B ≤ w'.heap.size) :
    Calls Tryd.prog 44 #[.agg #[kv, cv], .int .i64 key] w' fun e w'' => e = .returned (.bool (t.pathB key).2) ∧ Below w'.heap.size w' w'' := by
  have HB := Lib.hid hbw
  have hb1 : Below w'.heap.size w' (w'.alloc (.cells #[kv, cv] 33)) := (Below.refl _ _).alloc (Nat.le_refl _) _
  clear hbw
  go_enter Tryd.func44, Tryd.ntmps44
  go_wp2_with fail
  refine (impl_path ht hw key _ (HB.out.trans (hb1.mono hB)) (by simp; omega)).mono ?_
  rintro e w1 ⟨v, rfl, hv, hb2⟩
  obtain ⟨va, vc, rfl⟩ := IntsOwn.shown hv
  have HX := Lib.hid (hb1.trans (hb2.mono (by simp)))
  clear hb1 hb2 hv
  go_wp2_with fail
  go_ret
  exact ⟨rfl, HX.out⟩

/-- How many nodes are visited. -/
def Tr.visitsB (key : Int) (t : Tr) : Int := if t.someB then ((t.pathB key).1.length : Int) + 1 else -1
theorem visitsB_is (key : Int) (t : Tr) : (t.someB = true → t.visitsB key = ((t.pathB key).1.length : Int) + 1) ∧ (t.someB = false → t.visitsB key = -1) := by
  unfold Tr.visitsB
  constructor <;> intro h <;> simp [h]
theorem pathB_len (key : Int) (t : Tr) : (t.pathB key).1.length ≤ t.weight := by
  unfold Tr.pathB
  split
  · exact Tr.path_len key t
  · simp


-- END


end Go.Proofs.YtdcifdpkfcgmhaaDoor

/- The program's CursorValid. -/
namespace Go.Proofs.YtdcifdpkfcgmhaaDoor
open Go.RowKit

set_option maxHeartbeats 2000000 in
set_option maxRecDepth 100000 in
theorem impl_cursorValid {w : World} {B : Nat} {kv cv v : Value} {t : Tr} {ks : List Int} (ht : TreeIn w B kv cv t) (hw : t.weight ≤ 1048576) (hk : IntsIn w B v ks) (a : Int) (s : Addr) (w' : World) (hbw : Below B w w') (hB : B ≤ w'.heap.size)
    (hV : ∀ wx, Below w'.heap.size w' wx → wx.cell? ⟨0, 0, none⟩ = some (.iface 167 (.pointer (some s)))) :
    Calls Tryd.prog 43 #[.agg #[kv, cv], .agg #[v, .int .i64 a]] w' fun e w'' => e = .returned (.bool (Tr.curB t ks a)) ∧ Below w'.heap.size w' w'' := by
  have HT := Lib.hid ht
  have HK := Lib.hid hk
  obtain ⟨g1, g2, g3, g4, g5, g6, rfl, rfl⟩ := ht.slices
  obtain ⟨va, vcap, rfl, -⟩ := hk
  obtain ⟨W2, hW2⟩ : ∃ W2, W2 = (w'.alloc (.cells #[.slice g1 g2 g3, .slice g4 g5 g6] 33)).alloc (.cells #[.slice va ks.length vcap, .int .i64 a] 28) := ⟨_, rfl⟩
  have hb2 : Below w'.heap.size w' W2 := by rw [hW2]; exact ((Below.refl _ _).alloc (Nat.le_refl _) _).alloc (by simp) _
  have hs2 : w'.heap.size ≤ W2.heap.size := hb2.size
  have k0 : W2.heap[w'.heap.size]? = some (.cells #[.slice g1 g2 g3, .slice g4 g5 g6] 33 (0, 0)) := by rw [hW2, old_blk _ _ _ (by simp), new_blk]
  have k1 : W2.heap[w'.heap.size + 1]? = some (.cells #[.slice va ks.length vcap, .int .i64 a] 28 (0, 0)) := by
    rw [hW2, show w'.heap.size + 1 = (w'.alloc (.cells #[.slice g1 g2 g3, .slice g4 g5 g6] 33)).heap.size by simp, new_blk]
  rw [hW2] at k0 k1
  obtain ⟨x1, x2, x3, x4⟩ := box2 k0
  obtain ⟨y1, y2, y3, y4⟩ := box2 k1
  have HWA := Lib.hid (walkerAt_c HT.out hw HK.out a s W2 (hbw.trans (hb2.mono hB)) (by omega) (fun wx hx => hV wx (hb2.trans (hx.mono hs2))))
  have HB2 := Lib.hid (And.intro hb2 hV)
  have HW2 := Lib.hid hW2
  clear ht hbw hW2 hb2 k0 k1 hV
  go_enter Tryd.func43, Tryd.ntmps43
  go_wp2_with fail
  rw [← HW2.out]
  refine HWA.out.mono ?_
  rintro e w3 ⟨hres, hb3⟩
  have H3 := Lib.hid (HB2.out.1.trans (hb3.mono hs2))
  have xv := HB2.out.2 w3 H3.out
  clear hb3 x1 x2 x3 x4 y1 y2 y3 y4
  rcases hres with ⟨hc, rfl⟩ | ⟨hc, b, f, u, p, lo, hi, rfl, -⟩
  · have HC := Lib.hid hc
    clear hc
    go_wp2_with fail
    refine (is_same s _).mono ?_
    rintro e w4 ⟨rfl, hw4⟩
    have hw4' := hw4.symm
    subst hw4'
    go_wp2_with fail
    go_ret
    exact ⟨by rw [HC.out]; rfl, H3.out⟩
  · have HC := Lib.hid hc
    clear hc
    go_wp2_with fail
    refine (is_nil s _).mono ?_
    rintro e w4 ⟨rfl, hw4⟩
    have hw4' := hw4.symm
    subst hw4'
    go_wp2_with fail
    go_ret
    exact ⟨by rw [HC.out]; rfl, H3.out⟩
end Go.Proofs.YtdcifdpkfcgmhaaDoor

/- Maps of pointers to counts. -/
namespace Go.Proofs.YtdcifdpkfcgmhaaDoor
open Go.RowKit

/-- The map at block b: its keys are the starts of the blocks of which K tells a count, and its values these counts. -/
def CMap (w : World) (b : Nat) (K : Nat → Option Nat) : Prop :=
  ∃ L clock, PMapIs w b L clock ∧ (∀ e ∈ L, PAddr w e.1 ∧ ∃ k n : Nat, e.1 = ⟨k, 0, none⟩ ∧ e.2.1 = .int .i64 n ∧ K k = some n) ∧ ∀ k n, K k = some n → ∃ e ∈ L, e.1 = ⟨k, 0, none⟩

theorem CMap.kept {w w' : World} {b : Nat} {K : Nat → Option Nat} (h : CMap w b K) (hk : ∀ k, k < w.heap.size → w'.heap[k]? = w.heap[k]?) : CMap w' b K := by
  obtain ⟨L, clock, h1, h2, h3⟩ := h
  have hlt : b < w.heap.size := (Array.getElem?_eq_some_iff.1 h1).1
  exact ⟨L, clock, (hk b hlt).trans h1, fun e he => ⟨(h2 e he).1.kept (fun k hlt _ => hk k hlt), (h2 e he).2⟩, h3⟩

theorem CMap.lt {w : World} {b : Nat} {K : Nat → Option Nat} (h : CMap w b K) : b < w.heap.size := by
  obtain ⟨L, clock, h1, _⟩ := h
  exact (Array.getElem?_eq_some_iff.1 h1).1

/-- No block of cells is the map's block. -/
theorem CMap.ne {w : World} {b k : Nat} {K : Nat → Option Nat} {c : Array Value} {t : TypeId} (h : CMap w b K) (hk : w.heap[k]? = some (.cells c t (0, 0))) : k ≠ b := by
  obtain ⟨L, clock, h1, _⟩ := h
  unfold PMapIs at h1
  intro e
  rw [e, h1] at hk
  cases hk

/-- Kept where every block of cells is kept and the map. -/
theorem CMap.held {w w' : World} {b : Nat} {K : Nat → Option Nat} (h : CMap w b K) (hb : w'.heap[b]? = w.heap[b]?) (hp : ∀ k n, K k = some n → w'.heap[k]? = w.heap[k]?) : CMap w' b K := by
  obtain ⟨L, clock, h1, h2, h3⟩ := h
  refine ⟨L, clock, hb.trans h1, fun e he => ?_, h3⟩
  obtain ⟨hpa, k, n, e1, e2, e3⟩ := h2 e he
  exact ⟨hpa.kept (fun q _ hq => by rw [hq, e1]; exact hp k n e3), k, n, e1, e2, e3⟩

section
variable {P : Program} {T K E V : TypeId} {j jv : TypeInfo}

theorem cmap_new (w : World) : CMap (w.alloc (.map #[] 0)) w.heap.size (fun _ => none) :=
  ⟨[], 0, by unfold PMapIs; rw [show (w.alloc (.map #[] 0)).heap[w.heap.size]? = some (.map #[] 0) from World.alloc_heap_new w _]; rfl, by simp, by simp⟩

theorem cmap_lookup (w : World) (hT : P.underlying T = some (.map K V)) (hk : P.underlying K = some (.pointer E)) (hE : P.info? E = some j) (hsz : j.size ≠ 0) {z : Value} (hV : P.info? V = some jv) (hz : jv.zero = some z)
    {b : Nat} {M : Nat → Option Nat} (hm : CMap w b M) {q n : Nat} (hq : PAddr w ⟨q, 0, none⟩) (hn : M q = some n) :
    (Instr.lookup T (.map (some b)) (.pointer (some ⟨q, 0, none⟩)) false).run P w = .ok (.int .i64 n) w := by
  obtain ⟨L, clock, h1, h2, h3⟩ := hm
  rw [run_lookup_ptr w hT hk hE hsz hV hz h1 hq (fun e he => (h2 e he).1)]
  obtain ⟨e, he, e1⟩ := h3 q n hn
  cases hp : pfind ⟨q, 0, none⟩ L 0 with
  | none => exact absurd e1.symm (pfind_not hp e he)
  | some r =>
    obtain ⟨i, v⟩ := r
    obtain ⟨_, hi, e2, e3⟩ := pfind_some hp
    obtain ⟨_, k, m, e4, e5, e6⟩ := h2 _ (List.getElem_mem hi)
    rw [e2] at e4
    cases e4
    rw [e3] at e5
    rw [hn] at e6
    cases e6
    simp [e5]

theorem cmap_update (w : World) (hT : P.underlying T = some (.map K V)) (hk : P.underlying K = some (.pointer E)) (hE : P.info? E = some j) (hsz : j.size ≠ 0)
    {b : Nat} {M : Nat → Option Nat} (hm : CMap w b M) {q : Nat} (hq : PAddr w ⟨q, 0, none⟩) (hn : M q = none) (n : Nat) :
    ∃ o : Obj, (Instr.mapUpdate T (.map (some b)) (.pointer (some ⟨q, 0, none⟩)) (.int .i64 n)).run P w = .ok () (w.putObj b o) ∧ CMap (w.putObj b o) b (fun k => if k = q then some n else M k) := by
  obtain ⟨L, clock, h1, h2, h3⟩ := hm
  have hlt : b < w.heap.size := (Array.getElem?_eq_some_iff.1 h1).1
  have hne : ∀ a, PAddr w a → a.block ≠ b := fun a ⟨c, t, h⟩ e => by unfold PMapIs at h1; rw [e, h1] at h; cases h
  have hput : ∀ (o : Obj) a, PAddr w a → PAddr (w.putObj b o) a := fun o a h => h.kept (fun k _ e => World.putObj_heap_other (by rw [e]; exact hne a h))
  have hno : ∀ e ∈ L, (⟨q, 0, none⟩ : Addr) ≠ e.1 := fun e he hqe => by
    obtain ⟨_, k, m, e4, _, e6⟩ := h2 e he
    rw [e4] at hqe
    cases hqe
    rw [hn] at e6
    cases e6
  have hrun := run_mapUpdate_new w hT hk hE hsz h1 hq (fun e he => (h2 e he).1) hno (.int .i64 n)
  refine ⟨.map ((L ++ [((⟨q, 0, none⟩ : Addr), Value.int .i64 n, clock)]).map mkEntry).toArray (clock + 1), by rw [hrun]; rfl, ?_⟩
  refine ⟨L ++ [((⟨q, 0, none⟩ : Addr), Value.int .i64 n, clock)], clock + 1, (by unfold PMapIs; exact World.putObj_heap_same hlt), fun e he => ?_, fun k m hkm => ?_⟩
  · rcases List.mem_append.1 he with he | he
    · obtain ⟨hp, k, m, e4, e5, e6⟩ := h2 e he
      refine ⟨hput _ _ hp, k, m, e4, e5, ?_⟩
      by_cases hkq : k = q
      · rw [hkq, hn] at e6; cases e6
      · show (if k = q then some n else M k) = some m
        rw [if_neg hkq]; exact e6
    · obtain rfl : e = ((⟨q, 0, none⟩ : Addr), Value.int .i64 n, clock) := by simpa using he
      exact ⟨hput _ _ hq, q, n, rfl, rfl, by simp⟩
  · by_cases hkq : k = q
    · subst hkq
      exact ⟨((⟨k, 0, none⟩ : Addr), Value.int .i64 n, clock), by simp, rfl⟩
    · have hkm' : M k = some m := by
        have h : (if k = q then some n else M k) = some m := hkm
        rwa [if_neg hkq] at h
      obtain ⟨e, he, e1⟩ := h3 k m hkm'
      exact ⟨e, by simp [he], e1⟩
end
end Go.Proofs.YtdcifdpkfcgmhaaDoor

/- A node's block holds cells. -/
import Derived.Test.YticfkfjijnfcbaaDoorProg
import Derived.Test.YticfkfjijnfcbaaDoorSh0
import Derived.Test.YticfkfjijnfcbaaDoorSh3
import Derived.Test.YticfkfjijnfcbaaDoorPlant
import Derived.Test.YticfkfjijnfcbaaDoorSh6
import Derived.Test.YticfkfjijnfcbaaDoorSh7
import Derived.Test.YticfkfjijnfcbaaDoorPathTo
import Derived.Test.YticfkfjijnfcbaaDoorSh15
import Derived.Test.YticfkfjijnfcbaaDoorSh18
import Derived.Test.YticfkfjijnfcbaaDoorSh22
import Derived.Test.YticfkfjijnfcbaaDoorIter
import Derived.Test.YticfkfjijnfcbaaDoorKeys
import Derived.Test.YticfkfjijnfcbaaDoorSh4
import Derived.WalkKit

/- The contract of the program's PathOf. -/
namespace Go.Proofs.YticfkfjijnfcbaaDoor
open Go.RowKit

set_option maxRecDepth 100000 in
set_option maxHeartbeats 2000000 in
theorem impl_path {w : World} {B : Nat} {kv cv : Value} {t : Tr} (ht : TreeIn w B kv cv t) (hw : t.weight ≤ 1048576) (key : Int) (w' : World) (hbw : Below B w w') (hB : B ≤ w'.heap.size) :
    Calls Tryd.prog 91 #[.agg #[kv, cv], .int .i64 key] w' fun e w'' => ∃ v, e = .returned (.tuple #[v, .bool (t.pathB key).2]) ∧ IntsOwn w'' w'.heap.size v (t.pathB key).1 ∧ Below w'.heap.size w' w'' := by
  obtain ⟨a5, n5, m5, a6, n6, m6, rfl, rfl⟩ := ht.slices
  obtain ⟨W1, hW1⟩ : ∃ W1, W1 = w'.alloc (.cells #[.slice a5 n5 m5, .slice a6 n6 m6] 33) := ⟨_, rfl⟩
  have hs1 : W1.heap.size = w'.heap.size + 1 := by rw [hW1]; simp
  have hb1 : Below w'.heap.size w' W1 := by rw [hW1]; exact (Below.refl _ _).alloc (Nat.le_refl _) _
  have k0 : W1.heap[w'.heap.size]? = some (.cells #[.slice a5 n5 m5, .slice a6 n6 m6] 33 (0, 0)) := by rw [hW1, new_blk]
  obtain ⟨x1, x2, x3, x4⟩ := box2 k0
  have hsome := someB_path key t
  have HT := Lib.hid ht
  have HBW := Lib.hid hbw
  have HW1 := Lib.hid hW1
  have H1 := Lib.hid (And.intro hb1 k0)
  have HSOME := Lib.hid hsome
  clear ht hbw hW1 hb1 k0 hsome
  go_enter Tryd.func91, Tryd.ntmps91
  go_wp2_with fail
  rw [← HW1.out]
  refine (validForSome_c HT.out hw W1 (HBW.out.trans (H1.out.1.mono hB)) (by omega)).mono ?_
  rintro e w2 ⟨rfl, hb2⟩
  have hs2 := hb2.size
  clear x1 x2 x3 x4
  have j0 := (hb2.block _ (by omega)).trans H1.out.2
  obtain ⟨x1, x2, x3, x4⟩ := box2 j0
  have hb2' := H1.out.1.trans (hb2.mono (by omega))
  have H2 := Lib.hid hb2'
  have HB2 := Lib.hid (HBW.out.trans (hb2'.mono hB))
  clear hb2 hb2' j0
  cases hv : t.someB with
  | false =>
    have hp := HSOME.out.2 hv
    have HP := Lib.hid hp
    clear hp hv
    go_wp2_with fail
    refine bodyPost_ret (v := .tuple #[.slice none 0 0, .bool false]) (by simp [results, Tryd.results91, go_sem]) rfl ⟨.slice none 0 0, by rw [HP.out], by rw [HP.out]; exact ⟨rfl, .inl ⟨rfl, rfl⟩⟩, H2.out⟩
  | true =>
    have hp := HSOME.out.1 hv
    have hwell := Tr.Well.of_some hv
    have HP := Lib.hid hp
    have HWELL := Lib.hid hwell
    clear hp hv hwell
    go_wp2_with fail
    refine (plant_c HT.out hw _ HB2.out (by omega)).mono ?_
    rintro e w3 ⟨nb, rfl, hnd, hb3⟩
    have hs3 := hb3.size
    have HND := Lib.hid (And.intro hnd hb3)
    clear hnd hb3 x1 x2 x3 x4
    go_wp2_with fail
    refine (pathTo_c HND.out.1.nodeAt HWELL.out hw key w3 (Below.refl _ _) (Nat.le_refl _)).mono ?_
    rintro e w4 ⟨v, rfl, hown, hb4⟩
    obtain ⟨va, vc, rfl⟩ := IntsOwn.shown hown
    have H4 := Lib.hid (And.intro hown (H2.out.trans ((HND.out.2.mono (by omega)).trans (hb4.mono (by omega)))))
    clear hown hb4
    go_wp2_with fail
    refine bodyPost_ret (v := .tuple #[.slice va (t.path key).1.length vc, .bool (t.path key).2]) (by simp [results, Tryd.results91, go_sem]) rfl ⟨_, by rw [HP.out], by rw [HP.out]; exact IntsOwn.lower H4.out.1 (by omega), H4.out.2⟩
end Go.Proofs.YticfkfjijnfcbaaDoor

/- The model's HasKey and VisitsOf, and the program's, over PathOf. -/
namespace Go.Proofs.YticfkfjijnfcbaaDoor
open Go.RowKit

theorem tuple_ret {a : Value} {c d : Bool} (h : c = d) : Ending.returned (.tuple #[a, .bool c]) = .returned (.tuple #[a, .bool d]) := by rw [h]


set_option maxHeartbeats 1000000 in
theorem impl_has {w : World} {B : Nat} {kv cv : Value} {t : Tr} (ht : TreeIn w B kv cv t) (hw : t.weight ≤ 1048576) (key : Int) (w' : World) (hbw : Below B w w') (hB : B ≤ w'.heap.size) :
    Calls Tryd.prog 44 #[.agg #[kv, cv], .int .i64 key] w' fun e w'' => e = .returned (.bool (t.pathB key).2) ∧ Below w'.heap.size w' w'' := by
  have HB := Lib.hid hbw
  have hb1 : Below w'.heap.size w' (w'.alloc (.cells #[kv, cv] 33)) := (Below.refl _ _).alloc (Nat.le_refl _) _
  clear hbw
  go_enter Tryd.func44, Tryd.ntmps44
  go_wp2_with fail
  refine (impl_path ht hw key _ (HB.out.trans (hb1.mono hB)) (by simp; omega)).mono ?_
  rintro e w1 ⟨v, rfl, hv, hb2⟩
  obtain ⟨va, vc, rfl⟩ := IntsOwn.shown hv
  have HX := Lib.hid (hb1.trans (hb2.mono (by simp)))
  clear hb1 hb2 hv
  go_wp2_with fail
  go_ret
  exact ⟨rfl, HX.out⟩

/-- How many nodes are visited. -/
def Tr.visitsB (key : Int) (t : Tr) : Int := if t.someB then ((t.pathB key).1.length : Int) + 1 else -1
theorem visitsB_is (key : Int) (t : Tr) : (t.someB = true → t.visitsB key = ((t.pathB key).1.length : Int) + 1) ∧ (t.someB = false → t.visitsB key = -1) := by
  unfold Tr.visitsB
  constructor <;> intro h <;> simp [h]
theorem pathB_len (key : Int) (t : Tr) : (t.pathB key).1.length ≤ t.weight := by
  unfold Tr.pathB
  split
  · exact Tr.path_len key t
  · simp


-- END


end Go.Proofs.YticfkfjijnfcbaaDoor

/- Maps of pointers to counts. -/
namespace Go.Proofs.YticfkfjijnfcbaaDoor
open Go.RowKit

/-- The map at block b: its keys are the starts of the blocks of which K tells a count, and its values these counts. -/
def CMap (w : World) (b : Nat) (K : Nat → Option Nat) : Prop :=
  ∃ L clock, PMapIs w b L clock ∧ (∀ e ∈ L, PAddr w e.1 ∧ ∃ k n : Nat, e.1 = ⟨k, 0, none⟩ ∧ e.2.1 = .int .i64 n ∧ K k = some n) ∧ ∀ k n, K k = some n → ∃ e ∈ L, e.1 = ⟨k, 0, none⟩

theorem CMap.kept {w w' : World} {b : Nat} {K : Nat → Option Nat} (h : CMap w b K) (hk : ∀ k, k < w.heap.size → w'.heap[k]? = w.heap[k]?) : CMap w' b K := by
  obtain ⟨L, clock, h1, h2, h3⟩ := h
  have hlt : b < w.heap.size := (Array.getElem?_eq_some_iff.1 h1).1
  exact ⟨L, clock, (hk b hlt).trans h1, fun e he => ⟨(h2 e he).1.kept (fun k hlt _ => hk k hlt), (h2 e he).2⟩, h3⟩

theorem CMap.lt {w : World} {b : Nat} {K : Nat → Option Nat} (h : CMap w b K) : b < w.heap.size := by
  obtain ⟨L, clock, h1, _⟩ := h
  exact (Array.getElem?_eq_some_iff.1 h1).1

/-- No block of cells is the map's block. -/
theorem CMap.ne {w : World} {b k : Nat} {K : Nat → Option Nat} {c : Array Value} {t : TypeId} (h : CMap w b K) (hk : w.heap[k]? = some (.cells c t (0, 0))) : k ≠ b := by
  obtain ⟨L, clock, h1, _⟩ := h
  unfold PMapIs at h1
  intro e
  rw [e, h1] at hk
  cases hk

/-- Kept where every block of cells is kept and the map. -/
theorem CMap.held {w w' : World} {b : Nat} {K : Nat → Option Nat} (h : CMap w b K) (hb : w'.heap[b]? = w.heap[b]?) (hp : ∀ k n, K k = some n → w'.heap[k]? = w.heap[k]?) : CMap w' b K := by
  obtain ⟨L, clock, h1, h2, h3⟩ := h
  refine ⟨L, clock, hb.trans h1, fun e he => ?_, h3⟩
  obtain ⟨hpa, k, n, e1, e2, e3⟩ := h2 e he
  exact ⟨hpa.kept (fun q _ hq => by rw [hq, e1]; exact hp k n e3), k, n, e1, e2, e3⟩

section
variable {P : Program} {T K E V : TypeId} {j jv : TypeInfo}

theorem cmap_new (w : World) : CMap (w.alloc (.map #[] 0)) w.heap.size (fun _ => none) :=
  ⟨[], 0, by unfold PMapIs; rw [show (w.alloc (.map #[] 0)).heap[w.heap.size]? = some (.map #[] 0) from World.alloc_heap_new w _]; rfl, by simp, by simp⟩

theorem cmap_lookup (w : World) (hT : P.underlying T = some (.map K V)) (hk : P.underlying K = some (.pointer E)) (hE : P.info? E = some j) (hsz : j.size ≠ 0) {z : Value} (hV : P.info? V = some jv) (hz : jv.zero = some z)
    {b : Nat} {M : Nat → Option Nat} (hm : CMap w b M) {q n : Nat} (hq : PAddr w ⟨q, 0, none⟩) (hn : M q = some n) :
    (Instr.lookup T (.map (some b)) (.pointer (some ⟨q, 0, none⟩)) false).run P w = .ok (.int .i64 n) w := by
  obtain ⟨L, clock, h1, h2, h3⟩ := hm
  rw [run_lookup_ptr w hT hk hE hsz hV hz h1 hq (fun e he => (h2 e he).1)]
  obtain ⟨e, he, e1⟩ := h3 q n hn
  cases hp : pfind ⟨q, 0, none⟩ L 0 with
  | none => exact absurd e1.symm (pfind_not hp e he)
  | some r =>
    obtain ⟨i, v⟩ := r
    obtain ⟨_, hi, e2, e3⟩ := pfind_some hp
    obtain ⟨_, k, m, e4, e5, e6⟩ := h2 _ (List.getElem_mem hi)
    rw [e2] at e4
    cases e4
    rw [e3] at e5
    rw [hn] at e6
    cases e6
    simp [e5]

theorem cmap_update (w : World) (hT : P.underlying T = some (.map K V)) (hk : P.underlying K = some (.pointer E)) (hE : P.info? E = some j) (hsz : j.size ≠ 0)
    {b : Nat} {M : Nat → Option Nat} (hm : CMap w b M) {q : Nat} (hq : PAddr w ⟨q, 0, none⟩) (hn : M q = none) (n : Nat) :
    ∃ o : Obj, (Instr.mapUpdate T (.map (some b)) (.pointer (some ⟨q, 0, none⟩)) (.int .i64 n)).run P w = .ok () (w.putObj b o) ∧ CMap (w.putObj b o) b (fun k => if k = q then some n else M k) := by
  obtain ⟨L, clock, h1, h2, h3⟩ := hm
  have hlt : b < w.heap.size := (Array.getElem?_eq_some_iff.1 h1).1
  have hne : ∀ a, PAddr w a → a.block ≠ b := fun a ⟨c, t, h⟩ e => by unfold PMapIs at h1; rw [e, h1] at h; cases h
  have hput : ∀ (o : Obj) a, PAddr w a → PAddr (w.putObj b o) a := fun o a h => h.kept (fun k _ e => World.putObj_heap_other (by rw [e]; exact hne a h))
  have hno : ∀ e ∈ L, (⟨q, 0, none⟩ : Addr) ≠ e.1 := fun e he hqe => by
    obtain ⟨_, k, m, e4, _, e6⟩ := h2 e he
    rw [e4] at hqe
    cases hqe
    rw [hn] at e6
    cases e6
  have hrun := run_mapUpdate_new w hT hk hE hsz h1 hq (fun e he => (h2 e he).1) hno (.int .i64 n)
  refine ⟨.map ((L ++ [((⟨q, 0, none⟩ : Addr), Value.int .i64 n, clock)]).map mkEntry).toArray (clock + 1), by rw [hrun]; rfl, ?_⟩
  refine ⟨L ++ [((⟨q, 0, none⟩ : Addr), Value.int .i64 n, clock)], clock + 1, (by unfold PMapIs; exact World.putObj_heap_same hlt), fun e he => ?_, fun k m hkm => ?_⟩
  · rcases List.mem_append.1 he with he | he
    · obtain ⟨hp, k, m, e4, e5, e6⟩ := h2 e he
      refine ⟨hput _ _ hp, k, m, e4, e5, ?_⟩
      by_cases hkq : k = q
      · rw [hkq, hn] at e6; cases e6
      · show (if k = q then some n else M k) = some m
        rw [if_neg hkq]; exact e6
    · obtain rfl : e = ((⟨q, 0, none⟩ : Addr), Value.int .i64 n, clock) := by simpa using he
      exact ⟨hput _ _ hq, q, n, rfl, rfl, by simp⟩
  · by_cases hkq : k = q
    · subst hkq
      exact ⟨((⟨k, 0, none⟩ : Addr), Value.int .i64 n, clock), by simp, rfl⟩
    · have hkm' : M k = some m := by
        have h : (if k = q then some n else M k) = some m := hkm
        rwa [if_neg hkq] at h
      obtain ⟨e, he, e1⟩ := h3 k m hkm'
      exact ⟨e, by simp [he], e1⟩
end
end Go.Proofs.YticfkfjijnfcbaaDoor

/- The contract of count: how many keys lie in each node and below it, kept in a map. -/
namespace Go.Proofs.YticfkfjijnfcbaaDoor
open Go.RowKit

/-- The memory tells the block of kid i of the node at block b. -/
def kidAt (w : World) (b i p : Nat) : Prop :=
  ∃ (kv : Value) (qb qo n cap : Nat), w.heap[b]? = some (.cells #[kv, .slice (some ⟨qb, qo, none⟩) n cap] 110 (0, 0)) ∧ w.cell? ⟨qb, qo + i, none⟩ = some (.pointer (some ⟨p, 0, none⟩))
theorem kidAt_unique {w : World} {b i p p' : Nat} (h : kidAt w b i p) (h' : kidAt w b i p') : p = p' := by
  obtain ⟨kv, qb, qo, n, cap, h1, h2⟩ := h
  obtain ⟨kv', qb', qo', n', cap', h1', h2'⟩ := h'
  rw [h1] at h1'
  simp only [Option.some.injEq, Obj.cells.injEq] at h1'
  have e := congrArg Array.toList h1'.1
  simp only [List.cons.injEq, Value.slice.injEq, Option.some.injEq, Addr.mk.injEq] at e
  obtain ⟨_, ⟨⟨rfl, rfl, _⟩, _⟩, _⟩ := e
  rw [h2] at h2'
  simpa using h2'

/-- K tells, of a node and of all below it, how many keys they have. -/
inductive Counted (w : World) (K : Nat → Option Nat) : Nat → Tr → Prop where
  | mk (b : Nat) (ks : List Int) (cs : List Tr) (h : K b = some (Tr.mk ks cs).keys.length) (kids : ∀ i (hi : i < cs.length) (p : Nat), kidAt w b i p → Counted w K p cs[i]) : Counted w K b (.mk ks cs)

theorem Counted.parts {w : World} {K : Nat → Option Nat} {b : Nat} {ks : List Int} {cs : List Tr} (h : Counted w K b (.mk ks cs)) :
    K b = some (Tr.mk ks cs).keys.length ∧ ∀ i (hi : i < cs.length) (p : Nat), kidAt w b i p → Counted w K p cs[i] := by
  cases h with
  | mk b ks cs h kids => exact ⟨h, kids⟩

theorem Counted.told {w : World} {K : Nat → Option Nat} {b : Nat} {t : Tr} (h : Counted w K b t) : K b = some t.keys.length := by
  cases h with
  | mk b ks cs h kids => exact h

theorem Counted.mono {w : World} {lo hi b : Nat} {t : Tr} (hn : NodeIn w lo hi b t) : ∀ {K K' : Nat → Option Nat}, Counted w K b t → (∀ k, lo ≤ k → k < hi → K' k = K k) → Counted w K' b t := by
  induction hn with
  | mk ks cs lo hi b kv a cap ps s hlo hhi hs0 hsn hs hbox hk hlen hcap hat hkids ih =>
    intro K K' h hK
    obtain ⟨h1, h2⟩ := h.parts
    refine .mk b ks cs (by rw [hK b hlo hhi]; exact h1) (fun i hi' p hp => ?_)
    have h3 := h2 i hi' p hp
    rcases hat with h0 | ⟨qb, qo, rfl, q1, q2, q3⟩
    · omega
    have hps : kidAt w b i (ps i) := ⟨_, _, _, _, _, hbox, q3 i hi'⟩
    obtain rfl := kidAt_unique hp hps
    refine ih i hi' h3 (fun k k1 k2 => hK k ?_ ?_)
    · have := steps_le hs 0 i (by omega) (by omega); omega
    · have := steps_le hs (i + 1) cs.length (by omega) (by omega); omega

theorem Counted.move {w w' : World} {lo hi b : Nat} {t : Tr} (hn : NodeIn w lo hi b t) : ∀ {K : Nat → Option Nat}, Counted w K b t → (∀ k, lo ≤ k → k < hi → w'.heap[k]? = w.heap[k]?) → Counted w' K b t := by
  induction hn with
  | mk ks cs lo hi b kv a cap ps s hlo hhi hs0 hsn hs hbox hk hlen hcap hat hkids ih =>
    intro K h hK
    obtain ⟨h1, h2⟩ := h.parts
    refine .mk b ks cs h1 (fun i hi' p hp => ?_)
    rcases hat with h0 | ⟨qb, qo, rfl, q1, q2, q3⟩
    · omega
    have hps : kidAt w b i (ps i) := ⟨_, _, _, _, _, hbox, q3 i hi'⟩
    have hps' : kidAt w' b i (ps i) := ⟨_, _, _, _, _, (hK b hlo hhi).trans hbox, (cell_of_blk (hK qb q1 q2)).trans (q3 i hi')⟩
    obtain rfl := kidAt_unique hp hps'
    refine ih i hi' (h2 i hi' _ hps) (fun k k1 k2 => hK k ?_ ?_)
    · have := steps_le hs 0 i (by omega) (by omega); omega
    · have := steps_le hs (i + 1) cs.length (by omega) (by omega); omega

theorem Tryd.infoNodeSz : (Tryd.prog.info? 110).map (fun i => decide (i.size ≠ 0)) = some true := by kernel_rfl
theorem Tryd.infoIntZ : (Tryd.prog.info? 3).map (fun i => i.zero) = some (some (.int .i64 0)) := by kernel_rfl

theorem lens_snoc (cs : List Tr) (j : Nat) (h : j < cs.length) : Tr.lens ((Tr.keyss cs).take (j + 1)) = Tr.lens ((Tr.keyss cs).take j) + cs[j].keys.length := by
  rw [List.take_add_one, Tr.lens_append, Tr.keyss_get cs j h]; rfl
theorem lens_take_le (cs : List Tr) (j : Nat) : Tr.lens ((Tr.keyss cs).take j) ≤ Tr.lens (Tr.keyss cs) := by
  conv => rhs; rw [← List.take_append_drop j (Tr.keyss cs), Tr.lens_append]
  omega

set_option maxRecDepth 100000 in
set_option maxHeartbeats 4000000 in
theorem count_c {w : World} {lo hi b : Nat} {t : Tr} (ht : NodeIn w lo hi b t) : t.weight ≤ 1048576 → hi ≤ w.heap.size → ∀ (W : World) (mb : Nat) (K : Nat → Option Nat), Keep (fun k => lo ≤ k ∧ k < hi) w W → CMap W mb K → (∀ k, lo ≤ k → k < hi → K k = none) → ¬ (lo ≤ mb ∧ mb < hi) →
    Calls Tryd.prog 88 #[.pointer (some ⟨b, 0, none⟩), .map (some mb)] W fun e W' => e = .returned (.int .i64 t.keys.length) ∧ ∃ K', CMap W' mb K' ∧ Counted w K' b t ∧ (∀ k, ¬ (lo ≤ k ∧ k < hi) → K' k = K k) ∧ Keep (fun k => k ≠ mb) W W' ∧ W'.heap.size = W.heap.size := by
  induction ht with
  | mk ks cs lo hi b kv a cap ps s hlo hhi hs0 hsn hs hbox hk hlen hcap hat hkids ih =>
    intro hwt hhw W mb K hkeep hmap hnone hmb
    obtain ⟨i0, hi0, hi1⟩ := Option.map_eq_some_iff.1 Tryd.infoNodeSz
    have hsz : i0.size ≠ 0 := by simpa using hi1
    have hboxW : W.heap[b]? = some (.cells #[kv, .slice a cs.length cap] 110 (0, 0)) := (hkeep.block b (by omega) ⟨hlo, hhi⟩).trans hbox
    obtain ⟨ka, kcap, rfl, k1, k2, _⟩ := hk
    have hkl := keys_len ks cs
    have hkle := Tr.keys_length_le (.mk ks cs)
    simp only [Tr.weight] at hwt hkle
    have hl0 := Tr.length_le_weights cs
    have hltk := fun j => lens_take_le cs j
    have hbd : ks.length + Tr.lens (Tr.keyss cs) ≤ 1048576 := by omega
    have hne := hmap.ne hboxW
    obtain ⟨x1, x2, x3, x4⟩ := box2 hboxW
    unfold maxLen at hcap k2
    have HAT := Lib.hid hat
    have IH := Lib.hid ih
    have HKD := Lib.hid hkids
    have HS := Lib.hid hs
    have HKP := Lib.hid hkeep
    have HM := Lib.hid hmap
    have HNO := Lib.hid hnone
    have HBOX := Lib.hid (And.intro hbox hboxW)
    have HKL := Lib.hid hkl
    have HLT := Lib.hid hltk
    have HSZ := Lib.hid (And.intro hi0 hsz)
    clear hat ih hkids hs hkeep hmap hnone hbox hboxW hkl hltk hi1 hi0 hsz
    go_enter Tryd.func88, Tryd.ntmps88
    go_wp2_with fail
    go_loopw [5, 19] (fun tot i wr => ∃ (j : Nat) (K' : Nat → Option Nat) (n : Nat), j ≤ cs.length ∧ i = .int .i64 j ∧ tot = .int .i64 n ∧ n = ks.length + Tr.lens ((Tr.keyss cs).take j) ∧ CMap wr mb K' ∧ (∀ q (hq : q < cs.length), q < j → Counted w K' (ps q) cs[q]) ∧
      (∀ k, ¬ (s 0 ≤ k ∧ k < s j) → K' k = K k) ∧ Keep (fun k => k ≠ mb) W wr ∧ wr.heap.size = W.heap.size) (fun _ i _ => cs.length - (intOf i).toNat)
    case atStart => exact ⟨0, K, ks.length, Nat.zero_le _, rfl, rfl, by simp [Tr.lens], HM.out, fun q _ h => by omega, fun k _ => rfl, Keep.refl _ _, rfl⟩
    case round =>
      obtain ⟨j, K', n, hj, rfl, rfl, hn, hm, hcnt, hK, hkp, hsz2⟩ := hrel
      have HM' := Lib.hid hm
      have HCNT := Lib.hid hcnt
      have HK := Lib.hid hK
      have HKP2 := Lib.hid hkp
      have HSZ2 := Lib.hid hsz2
      have hlj := HLT.out j
      have hnb : n ≤ 1048576 := by omega
      have HN := Lib.hid hn
      clear hn hm hcnt hK hkp hsz2 x1 x2 x3 x4
      have hbW : b < W.heap.size := (Array.getElem?_eq_some_iff.1 HBOX.out.2).1
      obtain ⟨x1, x2, x3, x4⟩ := box2 ((HKP2.out.block b hbW hne).trans HBOX.out.2)
      by_cases hlt : j < cs.length
      · have g1 := steps_le HS.out 0 j (by omega) (by omega)
        have g2 := steps_le HS.out (j + 1) cs.length (by omega) (by omega)
        have g3 := HS.out j hlt
        rcases HAT.out with h0 | ⟨qb, qo, rfl, q1, q2, q3⟩
        · omega
        have hqW : W.heap[qb]? = w.heap[qb]? := HKP.out.block qb (by omega) ⟨q1, q2⟩
        have hcW := (cell_of_blk hqW).trans (q3 j hlt)
        have hqm : qb ≠ mb := by
          have hlt9 := World.block_lt_of_cell? W _ hcW
          intro e
          have hc9 := hcW
          obtain ⟨L, clock, h1, _⟩ := HM.out
          unfold PMapIs at h1
          rw [e] at hc9
          simp [World.cell?, h1] at hc9
        have hcell : wr.cell? ⟨qb, qo + j, none⟩ = some (.pointer (some ⟨ps j, 0, none⟩)) := (cell_of_blk (HKP2.out.block qb (World.block_lt_of_cell? W _ hcW) hqm)).trans hcW
        have hsn2 := lens_snoc cs j hlt
        have hl1 := HLT.out (j + 1)
        have hrange := (HKD.out j hlt).range
        have hKeep : Keep (fun k => s j ≤ k ∧ k < s (j + 1)) w wr := by
          refine (HKP.out.mono (fun k _ h => ⟨by omega, by omega⟩)).trans ⟨HKP2.out.os, HKP2.out.tape, HKP2.out.output, HKP2.out.size, fun k h1 h2 => HKP2.out.block k h1 ?_⟩
          intro e
          subst e
          omega
        have hcall := IH.out j hlt (by have := Tr.weight_get_le cs j hlt; omega) (by omega) wr mb K' hKeep HM'.out (fun k h1 h2 => by rw [HK.out k (by omega)]; exact HNO.out k (by omega) (by omega)) (by omega)
        have hn' := HN.out
        generalize hG1 : Tr.lens ((Tr.keyss cs).take j) = g at hlj hsn2 hn'
        generalize hG2 : Tr.lens ((Tr.keyss cs).take (j + 1)) = g' at hl1 hsn2
        have hkj := Tr.keys_length_le cs[j]
        have hwj := Tr.weight_get_le cs j hlt
        generalize hKJ : cs[j].keys.length = kj at hsn2 hcall hkj
        have hnk : n + kj ≤ 1048576 := by omega
        have HG := Lib.hid (And.intro hG2 (And.intro hsn2 hn'))
        have HC := Lib.hid hcall
        have HQ3 := Lib.hid q3
        have hjl : (j : Int) < (cs.length : Int) := by omega
        clear hG1 hG2 hsn2 hn' hcall hKJ q3 hcW hqW hKeep
        go_wp2_with fail
        refine HC.out.mono ?_
        rintro e w3 ⟨rfl, K3, hm3, hc3, hK3, hk3, hs3⟩
        have H3 := Lib.hid (And.intro hm3 (And.intro hc3 (And.intro hK3 (And.intro hk3 hs3))))
        clear hm3 hc3 hK3 hk3 hs3
        go_wp2_with fail
        go_roundw
        case rel =>
          refine ⟨j + 1, K3, n + kj, by omega, by go_num, by go_num, by have := HG.out; omega, H3.out.1, fun q hq hqj => ?_, fun k hk => ?_, HKP2.out.trans H3.out.2.2.2.1, H3.out.2.2.2.2.trans HSZ2.out⟩
          · by_cases e : q = j
            · subst e; exact H3.out.2.1
            · refine Counted.mono (HKD.out q hq) (HCNT.out q hq (by omega)) (fun k h1 h2 => H3.out.2.2.1 k ?_)
              have := steps_le HS.out (q + 1) j (by omega) (by omega)
              omega
          · rw [H3.out.2.2.1 k (by omega), HK.out k (by omega)]
        case measure => simp [intOf]; omega
      · obtain rfl : j = cs.length := by omega
        have hfull : Tr.lens ((Tr.keyss cs).take cs.length) = Tr.lens (Tr.keyss cs) := by rw [List.take_of_length_le (by rw [Tr.length_keyss]; omega)]
        have hKb : K' b = none := by rw [HK.out b (by omega)]; exact HNO.out b hlo hhi
        obtain ⟨o, hrun, hmo⟩ := cmap_update wr Tryd.underlying101 Tryd.underlying99 HSZ.out.1 HSZ.out.2 HM'.out (q := b) ⟨_, _, (HKP2.out.block b hbW hne).trans HBOX.out.2⟩ hKb n
        have HMO := Lib.hid hmo
        have HFULL := Lib.hid hfull
        clear hmo hfull hKb
        go_wp2_with fail
        go_ret
        have hnn : n = (Tr.mk ks cs).keys.length := by have h1 := HN.out; rw [HFULL.out] at h1; have h2 := HKL.out; omega
        refine ⟨ret_int (by rw [hnn]), _, HMO.out, .mk b ks cs (by rw [← hnn]; simp) (fun i hi' p hp => ?_), fun k hk => ?_, HKP2.out.trans (Keep.putObj _ _ _ _ (by simp)), by simp [HSZ2.out]⟩
        · rcases HAT.out with h0 | ⟨qb, qo, rfl, q1, q2, q3⟩
          · omega
          have hps : kidAt w b i (ps i) := ⟨_, _, _, _, _, HBOX.out.1, q3 i hi'⟩
          obtain rfl := kidAt_unique hp hps
          refine Counted.mono (HKD.out i hi') (HCNT.out i hi' hi') (fun k h1 h2 => ?_)
          have := steps_le HS.out 0 i (by omega) (by omega)
          show (if k = b then _ else K' k) = K' k
          rw [if_neg (by omega)]
        · show (if k = b then _ else K' k) = K k
          rw [if_neg (by omega), HK.out k (by omega)]
end Go.Proofs.YticfkfjijnfcbaaDoor

/- A node's block holds cells. -/
namespace Go.Proofs.YticfkfjijnfcbaaDoor
open Go.RowKit

theorem node_cells {w : World} {lo hi b : Nat} {t : Tr} (h : NodeIn w lo hi b t) : ∃ c, w.heap[b]? = some (.cells c 110 (0, 0)) := by
  cases h with
  | mk ks cs lo hi b kv a cap ps s hlo hhi hs0 hsn hs hbox hk hlen hcap hat hkids => exact ⟨_, hbox⟩
theorem nodeAt_cells {w : World} {lo hi b : Nat} {t : Tr} (h : NodeAt w lo hi b t) : ∃ c, w.heap[b]? = some (.cells c 110 (0, 0)) := by
  cases h with
  | mk ks cs b kv a cap ps hlo hhi hbox hk hlen hcap hat hkids => exact ⟨_, hbox⟩
end Go.Proofs.YticfkfjijnfcbaaDoor

/- A slice of pairs of trees, by their addresses. -/
import Derived.Test.YtananonjomfpkaaQf0
import Derived.StillTailTactics
import Derived.Deep.AppendLies
/- Whether two trees are the same, as plain data; the contracts of the functions that compare lists, and of the model's SameTree. -/
namespace Go.Proofs.Ytananonjomfpkaa
open Go.RowKit
namespace Tr
mutual
def sameB : Tr → Tr → Bool
 | .mk k c, .mk k' c' => decide (k = k') && (decide (c.length = c'.length) && samesB c c')
def samesB : List Tr → List Tr → Bool
 | [], _ => true
 | _ :: _, [] => true
 | a :: r, b :: s => sameB a b && samesB r s
end
end Tr
theorem ints_eq_of {ks ks' : List Int} (hl : ks.length = ks'.length) (h : ∀ i, i < ks.length → ks.getD i 0 = ks'.getD i 0) : ks = ks' := by
 apply List.ext_getElem hl
 intro i h1 h2
 have := h i h1
 simpa [List.getD_eq_getElem?_getD, h1, h2] using this
set_option maxHeartbeats 1000000 in
theorem equal_c (ks ks' : List Int) (v v' : Value) (w : World) (B : Nat) (hk : IntsIn w B v ks) (hk' : IntsIn w B v' ks') (n0 : Nat) (r : Bool) (hr : decide (ks = ks') = r) :
   Calls Try.prog 60 #[v, v'] (w.drewN n0) fun e w' => e = .returned (.bool r) ∧ ∃ m, w' = w.drewN m := by
 subst hr
 obtain ⟨a, cap, rfl, h1, h2, _, h3⟩ := hk
 obtain ⟨a', cap', rfl, h1', h2', _, h3'⟩ := hk'
 unfold maxLen at h2 h2'
 have HK := Lib.hid h3
 have HK' := Lib.hid h3'
 clear h3 h3'
 by_cases hl : ks.length = ks'.length
 · have hne : ((ks.length : Int) != ks'.length) = false := by simp [hl]
   have HL := Lib.hid hl
   clear hl
   go_enter Try.func60, Try.ntmps60
   go_wp2_with fail
   go_loopw [13] (fun i wr => ∃ (j m : Nat), j ≤ ks.length ∧ i = .int .i64 j ∧ Hid (∀ i, i < j → ks.getD i 0 = ks'.getD i 0) ∧ wr = w.drewN m) (fun i _ => ks.length - (intOf i).toNat)
   case atStart => exact ⟨0, n0, Nat.zero_le _, rfl, Lib.hid (fun i h => by omega), rfl⟩
   case round =>
     obtain ⟨j, m, hj, rfl, HE, rfl⟩ := hrel
     by_cases hl1 : j < ks.length
     · have hl2 : j < ks'.length := by rw [← HL.out]; exact hl1
       rcases HK.out with h | ⟨b, off, rfl, hb, hat⟩
       · simp [h] at hl1
       rcases HK'.out with h | ⟨b', off', rfl, hb', hat'⟩
       · simp [h] at hl2
       have ha1 : w.cell? ⟨b, off + j, none⟩ = some (.int .i64 (ks.getD j 0)) := hat j hl1
       have ha2 : w.cell? ⟨b', off' + j, none⟩ = some (.int .i64 (ks'.getD j 0)) := hat' j hl2
       obtain ⟨x, hx⟩ : ∃ x, x = ks.getD j 0 := ⟨_, rfl⟩
       obtain ⟨y, hy⟩ : ∃ y, y = ks'.getD j 0 := ⟨_, rfl⟩
       rw [← hx] at ha1
       rw [← hy] at ha2
       have HX := Lib.hid hx
       have HY := Lib.hid hy
       clear hat hat' hx hy
       by_cases hxy : x = y
       · have hne2 : (x != y) = false := by simp [hxy]
         have HXY := Lib.hid hxy
         clear hxy
         go_wp2_with fail
         go_quiet (fail)
         go_wp2_with fail
         go_roundw
         case rel =>
           refine ⟨j + 1, _, by omega, by go_num, Lib.hid (fun i hi => ?_), rfl⟩
           by_cases hij : i = j
           · rw [hij, ← HX.out, ← HY.out]; exact HXY.out
           · exact HE.out i (by omega)
         case measure => simp [intOf]; omega
       · have hne2 : (x != y) = true := by simp [hxy]
         have HXY := Lib.hid hxy
         clear hxy
         go_wp2_with fail
         go_quiet (fail)
         go_wp2_with fail
         go_ret
         refine ⟨ret_bool (Eq.symm (decide_eq_false ?_)), _, World.drewN_drewN ..⟩
         intro e
         exact HXY.out (by rw [HX.out, HY.out, e])
     · go_wp2_with fail
       go_ret
       refine ⟨ret_bool ?_, _, rfl⟩
       rw [decide_eq_true (ints_eq_of HL.out (fun i hi => HE.out i (by omega)))]
 · have hne : ((ks.length : Int) != ks'.length) = true := by simp; omega
   have HL := Lib.hid hl
   clear hl
   go_enter Try.func60, Try.ntmps60
   go_wp2_with fail
   go_ret
   exact ⟨ret_bool (Eq.symm (decide_eq_false (fun e => HL.out (by rw [e])))), _, rfl⟩
end Go.Proofs.Ytananonjomfpkaa
/- A slice of pairs of trees, by their addresses. -/
namespace Go.Proofs.Ytananonjomfpkaa
open Go.RowKit
structure Sp where
 (b o : Nat)
 t : Tr
 (b' o' : Nat)
 t' : Tr
def pcells : List Sp → List Value
 | [] => []
 | f :: r => .pointer (some ⟨f.b, f.o, none⟩) :: .pointer (some ⟨f.b', f.o', none⟩) :: pcells r
theorem pcells_append (a b : List Sp) : pcells (a ++ b) = pcells a ++ pcells b := by
 induction a with
 | nil => rfl
 | cons f r ih => simp [pcells, ih]
theorem pcells_length (a : List Sp) : (pcells a).length = a.length * 2 := by
 induction a with
 | nil => rfl
 | cons f r ih => simp [pcells, ih]; omega
abbrev PWay (W : World) (lo g cap : Nat) (st : List Sp) : Prop := W.ownsRow lo 79 2 (.slice (some ⟨g, 0, none⟩) st.length cap) st.length (pcells st)
theorem PWay.blk {W : World} {lo g cap : Nat} {st : List Sp} (h : PWay W lo g cap st) : lo ≤ g ∧ ∃ cur, W.heap[g]? = some (.cells cur 79 (0, 0)) ∧ st.length ≤ cap ∧ cap ≤ maxLen ∧ cur.size = cap * 2 ∧ cur.toList.take (st.length * 2) = pcells st := by
 obtain ⟨h1, ⟨h2, _⟩ | ⟨g', cap', cur, hv, hb, hg, hn, hm, hs, ht⟩⟩ := h
 · simp at h2
 · simp only [Value.slice.injEq, Option.some.injEq, Addr.mk.injEq, and_true, true_and] at hv
   obtain ⟨rfl, rfl⟩ := hv
   exact ⟨hb, cur, hg, hn, hm, hs, ht⟩
theorem PWay.of {W : World} {lo g cap : Nat} {st : List Sp} {cur : Array Value} (hb : lo ≤ g) (hg : W.heap[g]? = some (.cells cur 79 (0, 0))) (hn : st.length ≤ cap) (hm : cap ≤ maxLen) (hs : cur.size = cap * 2) (ht : cur.toList.take (st.length * 2) = pcells st) : PWay W lo g cap st :=
 ⟨pcells_length st, .inr ⟨g, cap, cur, rfl, hb, hg, hn, hm, hs, ht⟩⟩
theorem PWay.lt {W : World} {lo g cap : Nat} {st : List Sp} (h : PWay W lo g cap st) : g < W.heap.size := by
 obtain ⟨_, cur, hg, _⟩ := h.blk
 exact (Array.getElem?_eq_some_iff.1 hg).1
theorem PWay.kept {W W' : World} {lo g cap : Nat} {st : List Sp} (h : PWay W lo g cap st) (hb : W'.heap[g]? = W.heap[g]?) : PWay W' lo g cap st := by
 obtain ⟨h1, cur, hg, hn, hm, hs, ht⟩ := h.blk
 exact PWay.of h1 (hb.trans hg) hn hm hs ht
theorem PWay.last {W : World} {lo g cap : Nat} {st : List Sp} {f : Sp} (h : PWay W lo g cap (st ++ [f])) :
   W.cell? ⟨g, st.length * 2, none⟩ = some (.pointer (some ⟨f.b, f.o, none⟩)) ∧ W.cell? ⟨g, st.length * 2 + 1, none⟩ = some (.pointer (some ⟨f.b', f.o', none⟩)) := by
 have h1 := World.ownsRow.cellAt h (st.length * 2) (by simp)
 have h2 := World.ownsRow.cellAt h (st.length * 2 + 1) (by simp; omega)
 rw [pcells_append] at h1 h2
 refine ⟨?_, ?_⟩
 · rw [h1]; simp [List.getElem?_append, pcells_length, pcells]
 · rw [h2]; simp [List.getElem?_append, pcells_length, pcells]
theorem PWay.pop {W : World} {lo g cap : Nat} {st : List Sp} {f : Sp} (h : PWay W lo g cap (st ++ [f])) : PWay W lo g cap st := by
 obtain ⟨h1, cur, hg, hn, hm, hs, ht⟩ := h.blk
 refine PWay.of h1 hg (by simp at hn; omega) hm hs ?_
 have h2 : cur.toList.take (st.length * 2) = (cur.toList.take ((st ++ [f]).length * 2)).take (st.length * 2) := by rw [List.take_take]; congr 1; simp
 rw [h2, ht, pcells_append, List.take_left' (pcells_length st)]
theorem PWay.own {W : World} {lo g cap n : Nat} {st : List Sp} (h : PWay W lo g cap st) (hn : st.length = n) : W.ownsRow lo 79 2 (.slice (some ⟨g, 0, none⟩) n cap) n (pcells st) := by
 subst hn; exact h
theorem PWay.grown {W : World} {lo g cap n : Nat} {st : List Sp} (f : Sp) (hn : st.length = n) (h : W.ownsRow lo 79 2 (.slice (some ⟨g, 0, none⟩) (n + 1) cap) (n + 1) (pcells st ++ [.pointer (some ⟨f.b, f.o, none⟩), .pointer (some ⟨f.b', f.o', none⟩)])) : PWay W lo g cap (st ++ [f]) := by
 subst hn
 have h2 : pcells (st ++ [f]) = pcells st ++ [.pointer (some ⟨f.b, f.o, none⟩), .pointer (some ⟨f.b', f.o', none⟩)] := by rw [pcells_append]; rfl
 unfold PWay
 rw [h2, show (st ++ [f]).length = st.length + 1 by simp]
 exact h
theorem Try.infoPair : (Try.prog.info? 79).map (fun i => (i.zero, i.size, i.bytes)) = some (some (.agg #[.pointer none, .pointer none]), 2, 16) := by kernel_rfl
def Lies (W : World) (H b o : Nat) (t : Tr) : Prop := ∃ kv cv, W.cell? ⟨b, o, none⟩ = some kv ∧ W.cell? ⟨b, o + 1, none⟩ = some cv ∧ b < H ∧ TreeIn W H kv cv t
abbrev Sp.ok (W : World) (H : Nat) (f : Sp) : Prop := Lies W H f.b f.o f.t ∧ Lies W H f.b' f.o' f.t'
abbrev Sp.same (f : Sp) : Bool := f.t.sameB f.t'
def total : List Sp → Nat
 | [] => 0
 | f :: r => f.t.count + total r
theorem total_append (a b : List Sp) : total (a ++ b) = total a + total b := by
 induction a with
 | nil => simp [total]
 | cons f r ih => simp [total, ih]; omega
theorem count_pos (t : Tr) : 1 ≤ t.count := by cases t; simp only [Tr.count]; omega
theorem length_le_total (a : List Sp) : a.length ≤ total a := by
 induction a with
 | nil => simp
 | cons f r ih => have := count_pos f.t; simp [total]; omega
def kidPairs (b o b' o' : Nat) : List Tr → List Tr → List Sp
 | c :: r, c' :: r' => ⟨b, o, c, b', o', c'⟩ :: kidPairs b (o + 2) b' (o' + 2) r r'
 | _, _ => []
theorem kidPairs_length (b b' : Nat) : ∀ (c c' : List Tr) (o o' : Nat), c.length = c'.length → (kidPairs b o b' o' c c').length = c.length
 | [], _, _, _, _ => by simp [kidPairs]
 | _ :: _, [], _, _, h => by simp at h
 | _ :: r, _ :: r', o, o', h => by simp [kidPairs, kidPairs_length b b' r r' (o + 2) (o' + 2) (by simpa using h)]
theorem kidPairs_get (b b' : Nat) : ∀ (c c' : List Tr) (o o' : Nat), c.length = c'.length → ∀ i (h : i < c.length) (h' : i < c'.length), (kidPairs b o b' o' c c')[i]? = some ⟨b, o + i * 2, c[i], b', o' + i * 2, c'[i]⟩
 | [], _, _, _, _, i, h, _ => by simp at h
 | _ :: _, [], _, _, h, _, _, _ => by simp at h
 | x :: r, y :: r', o, o', h, i, hi, hi' => by
   cases i with
   | zero => simp [kidPairs]
   | succ i =>
     have := kidPairs_get b b' r r' (o + 2) (o' + 2) (by simpa using h) i (by simpa using hi) (by simpa using hi')
     simp only [kidPairs, List.getElem?_cons_succ, List.getElem_cons_succ, this]
     simp only [Option.some.injEq, Sp.mk.injEq, true_and, and_true]
     omega
theorem kidPairs_same (b b' : Nat) : ∀ (c c' : List Tr) (o o' : Nat), (kidPairs b o b' o' c c').all Sp.same = Tr.samesB c c'
 | [], _, _, _ => by simp [kidPairs, Tr.samesB]
 | _ :: _, [], _, _ => by simp [kidPairs, Tr.samesB]
 | x :: r, y :: r', o, o' => by simp [kidPairs, Tr.samesB, kidPairs_same b b' r r' (o + 2) (o' + 2)]
theorem kidPairs_total (b b' : Nat) : ∀ (c c' : List Tr) (o o' : Nat), c.length = c'.length → total (kidPairs b o b' o' c c') = Tr.counts c
 | [], _, _, _, _ => by simp [kidPairs, total, Tr.counts]
 | _ :: _, [], _, _, h => by simp at h
 | x :: r, y :: r', o, o', h => by simp [kidPairs, total, Tr.counts, kidPairs_total b b' r r' (o + 2) (o' + 2) (by simpa using h)]
theorem kid_pairs {W : World} {H : Nat} {a a' : Option Addr} {cs cs' : List Tr} {kvs cvs kvs' cvs' : Nat → Value} (hl : cs.length = cs'.length)
   (hat : KidsIn W H a cs.length kvs cvs) (hk : ∀ i (h : i < cs.length), TreeIn W H (kvs i) (cvs i) cs[i])
   (hat' : KidsIn W H a' cs'.length kvs' cvs') (hk' : ∀ i (h : i < cs'.length), TreeIn W H (kvs' i) (cvs' i) cs'[i]) :
   ∃ ps : List Sp, ps.length = cs.length ∧ (∀ f ∈ ps, f.ok W H) ∧ ps.all Sp.same = Tr.samesB cs cs' ∧ total ps = Tr.counts cs ∧
     (cs.length = 0 ∨ ∃ b o b' o', a = some ⟨b, o, none⟩ ∧ a' = some ⟨b', o', none⟩ ∧ ∀ i, i < cs.length → ∃ t t', ps[i]? = some ⟨b, o + i * 2, t, b', o' + i * 2, t'⟩) := by
 rcases hat with h0 | ⟨b, o, rfl, hb, hat⟩
 · obtain rfl : cs = [] := List.length_eq_zero_iff.1 h0
   obtain rfl : cs' = [] := List.length_eq_zero_iff.1 hl.symm
   exact ⟨[], rfl, by simp, by simp [Tr.samesB], by simp [total, Tr.counts], .inl rfl⟩
 rcases hat' with h0 | ⟨b', o', rfl, hb', hat'⟩
 · obtain rfl : cs' = [] := List.length_eq_zero_iff.1 h0
   obtain rfl : cs = [] := List.length_eq_zero_iff.1 hl
   exact ⟨[], rfl, by simp, by simp [Tr.samesB], by simp [total, Tr.counts], .inl rfl⟩
 refine ⟨kidPairs b o b' o' cs cs', kidPairs_length _ _ _ _ _ _ hl, fun f hf => ?_, kidPairs_same _ _ _ _ _ _, kidPairs_total _ _ _ _ _ _ hl, .inr ⟨b, o, b', o', rfl, rfl, fun i hi => ⟨_, _, kidPairs_get b b' cs cs' o o' hl i hi (by omega)⟩⟩⟩
 obtain ⟨i, hi, he⟩ := List.getElem_of_mem hf
 rw [kidPairs_length _ _ _ _ _ _ hl] at hi
 have hi' : i < cs'.length := by omega
 have h1 := kidPairs_get b b' cs cs' o o' hl i hi hi'
 rw [List.getElem?_eq_getElem (by rw [kidPairs_length _ _ _ _ _ _ hl]; exact hi), he] at h1
 obtain rfl := Option.some.inj h1
 exact ⟨⟨_, _, (hat i hi).1, (hat i hi).2, hb, hk i hi⟩, ⟨_, _, (hat' i hi').1, (hat' i hi').2, hb', hk' i hi'⟩⟩
end Go.Proofs.Ytananonjomfpkaa

/- The program's own copy of a tree: nodes behind pointers; how they lie in memory; the contract of slices.Clone at ints. -/
import Derived.Test.YticfkfjijnfcbaaDoorCuS9
import Derived.Deep.AppendLies
import Derived.Lib.SliceRun
/- Finding: plain data: places in a node, the way down. -/
namespace Go.Proofs.YticfkfjijnfcbaaDoor
open Go.RowKit
def place (key : Int) : List Int → Nat
 | [] => 0
 | k :: r => if k < key then place key r + 1 else 0
theorem place_le (key : Int) (ks : List Int) : place key ks ≤ ks.length := by
 induction ks with
 | nil => simp [place]
 | cons k r ih => simp only [place, List.length_cons]; split <;> omega
theorem place_eq {key : Int} : ∀ {ks : List Int} {j : Nat}, j ≤ ks.length → (∀ i, i < j → ks.getD i 0 < key) → (j < ks.length → ¬ ks.getD j 0 < key) → place key ks = j
 | [], j, h, _, _ => by simp at h; simp [place, h]
 | k :: r, 0, _, _, h2 => by
   have := h2 (by simp)
   simp only [List.getD_cons_zero] at this
   simp [place, this]
 | k :: r, j + 1, h, h1, h2 => by
   have h0 := h1 0 (by omega)
   simp only [List.getD_cons_zero] at h0
   have := place_eq (key := key) (ks := r) (j := j) (by simpa using h) (fun i hi => by have := h1 (i + 1) (by omega); simpa using this) (fun hj => by have := h2 (by simpa using hj); simpa using this)
   simp [place, h0, this]
namespace Tr
def ks : Tr → List Int | .mk k _ => k
def cs : Tr → List Tr | .mk _ c => c
mutual
def path (key : Int) : Tr → List Int × Bool
 | .mk k c =>
   if place key k < k.length ∧ k.getD (place key k) 0 = key then ([], true)
   else if c.length = 0 then ([], false)
   else ((place key k : Int) :: ((paths key c).getD (place key k) ([], false)).1, ((paths key c).getD (place key k) ([], false)).2)
def paths (key : Int) : List Tr → List (List Int × Bool)
 | [] => []
 | t :: r => path key t :: paths key r
end
theorem paths_get (key : Int) (c : List Tr) (i : Nat) (h : i < c.length) : (paths key c).getD i ([], false) = c[i].path key := by
 induction c generalizing i with
 | nil => simp at h
 | cons t r ih =>
   cases i with
   | zero => simp [paths]
   | succ i => simpa [paths] using ih i (by simpa using h)
theorem path_found {key : Int} {k : List Int} {c : List Tr} (h : place key k < k.length ∧ k.getD (place key k) 0 = key) : (Tr.mk k c).path key = ([], true) := by
 rw [path, if_pos h]
theorem path_leaf {key : Int} {k : List Int} {c : List Tr} (h : ¬ (place key k < k.length ∧ k.getD (place key k) 0 = key)) (h0 : c.length = 0) : (Tr.mk k c).path key = ([], false) := by
 rw [path, if_neg h, if_pos h0]
theorem path_inner {key : Int} {k : List Int} {c : List Tr} (h : ¬ (place key k < k.length ∧ k.getD (place key k) 0 = key)) (hi : place key k < c.length) :
   (Tr.mk k c).path key = ((place key k : Int) :: (c[place key k].path key).1, (c[place key k].path key).2) := by
 rw [path, if_neg h, if_neg (by omega), paths_get key c _ hi]
theorem paths_length (key : Int) (c : List Tr) : (paths key c).length = c.length := by
 induction c with
 | nil => rfl
 | cons t r ih => simp only [paths, List.length_cons, ih]
theorem path_len' (key : Int) : ∀ (n : Nat) (t : Tr), t.weight ≤ n → (t.path key).1.length ≤ t.weight
 | n, .mk k c, hn => by
   rw [path]
   split
   · simp
   · split
     · simp
     · simp only [List.length_cons, weight] at *
       by_cases hi : place key k < c.length
       · rw [paths_get key c _ hi]
         have h1 := weight_get_le c _ hi
         cases n with
         | zero => omega
         | succ n =>
           have := path_len' key n c[place key k] (by omega)
           omega
       · have h2 := paths_length key c
         rw [List.getD_eq_getElem?_getD, List.getElem?_eq_none (by omega)]
         have := length_le_weights c
         simp; omega
theorem path_len (key : Int) (t : Tr) : (t.path key).1.length ≤ t.weight := path_len' key t.weight t (Nat.le_refl _)
def pathB (key : Int) (t : Tr) : List Int × Bool := if t.someB then t.path key else ([], false)
def Well (t : Tr) : Prop := (∃ wide least d, nodesB wide least d t = true) ∧ t.keys.Pairwise (· < ·)
theorem Well.inner {k : List Int} {c : List Tr} (h : Well (.mk k c)) (h0 : c.length ≠ 0) : c.length = k.length + 1 := by
 obtain ⟨⟨w, l, d, h⟩, _⟩ := h
 rcases (nodesB_parts h).2 with ⟨h1, _⟩ | ⟨_, _, h3, _⟩
 · exact absurd h1 h0
 · exact h3
theorem part_sub (kss : List (List Int)) (ks : List Int) (n i : Nat) (h : i < n) : (part kss ks i).Sublist (upto kss ks n) := by
 induction n with
 | zero => omega
 | succ n ih =>
   rw [upto_succ]
   by_cases hi : i < n
   · exact (ih hi).trans (List.sublist_append_left _ _)
   · obtain rfl : i = n := by omega
     exact List.sublist_append_right _ _
theorem kid_sub {k : List Int} {c : List Tr} (i : Nat) (hi : i < c.length) : (c[i].keys).Sublist (Tr.mk k c).keys := by
 have h := part_sub (keyss c) k (max k.length c.length) i (by omega)
 refine List.Sublist.trans ?_ h
 unfold part
 rw [keyss_get c i hi]
 exact List.sublist_append_left _ _
theorem take_sub (kss : List (List Int)) (ks : List Int) (n : Nat) : (ks.take n).Sublist (upto kss ks n) := by
 induction n with
 | zero => simp
 | succ n ih =>
   rw [upto_succ, List.take_add_one]
   refine List.Sublist.append ih ?_
   unfold part
   exact List.sublist_append_right _ _
theorem own_sub (k : List Int) (c : List Tr) : k.Sublist (Tr.mk k c).keys := by
 have h := take_sub (keyss c) k (max k.length c.length)
 rw [List.take_of_length_le (by omega)] at h
 exact h
theorem Well.keys {k : List Int} {c : List Tr} (h : Well (.mk k c)) : k.Pairwise (· < ·) := h.2.sublist (own_sub k c)
theorem Well.kid {k : List Int} {c : List Tr} (h : Well (.mk k c)) (i : Nat) (hi : i < c.length) : Well c[i] := by
 obtain ⟨⟨w, l, d, hn⟩, hp⟩ := h
 rcases (nodesB_parts hn).2 with ⟨h1, _⟩ | ⟨_, _, _, _, h5⟩
 · omega
 · exact ⟨⟨_, _, _, h5 i hi⟩, hp.sublist (kid_sub i hi)⟩
theorem pairwise_of_sorted {ks : List Int} (h : sortedB ks = true) : ks.Pairwise (· < ·) := by
 have hstep : ∀ i, i + 1 < ks.length → ks.getD i 0 < ks.getD (i + 1) 0 := fun i hi => by
   have h1 := okAt_get h (i + 1) hi
   simp only [okAt, inB, Bool.and_eq_true, decide_eq_true_eq, Bool.or_eq_true, Nat.add_sub_cancel] at h1
   omega
 have hall : ∀ d i, i + d + 1 < ks.length → ks.getD i 0 < ks.getD (i + d + 1) 0 := by
   intro d
   induction d with
   | zero => intro i hi; exact hstep i hi
   | succ d ih => intro i hi; have := ih i (by omega); have := hstep (i + d + 1) (by omega); rw [show i + (d + 1) + 1 = i + d + 1 + 1 by omega]; omega
 rw [List.pairwise_iff_getElem]
 intro i j hi hj hij
 have := hall (j - i - 1) i (by omega)
 rw [show i + (j - i - 1) + 1 = j by omega] at this
 simpa [List.getD_eq_getElem?_getD, hi, hj] using this
theorem Well.of_some {t : Tr} (h : t.someB = true) : Well t := by
 have hv : ∃ w : Int, validB w t = true := by
   unfold someB at h
   simp only [Bool.or_eq_true] at h
   rcases h with (((h | h) | h) | h) | h
   all_goals exact ⟨_, h⟩
 obtain ⟨w, hv⟩ := hv
 unfold validB at hv
 simp only [Bool.and_eq_true] at hv
 exact ⟨⟨w, 0, _, hv.2.1⟩, pairwise_of_sorted hv.2.2⟩
end Tr
theorem someB_path (key : Int) (t : Tr) : (t.someB = true → t.pathB key = t.path key) ∧ (t.someB = false → t.pathB key = ([], false)) := by
 unfold Tr.pathB
 constructor <;> intro h <;> simp [h]
end Go.Proofs.YticfkfjijnfcbaaDoor
/- The program's own copy of a tree: nodes behind pointers; how they lie in memory; the contract of slices.Clone at ints. -/
namespace Go.Proofs.YticfkfjijnfcbaaDoor
open Go.RowKit
def IntsR (w : World) (lo hi : Nat) (v : Value) (ks : List Int) : Prop :=
 ∃ (a : Option Addr) (cap : Nat), v = .slice a ks.length cap ∧ ks.length ≤ cap ∧ cap ≤ maxLen ∧ (a = none → cap = 0) ∧
   (ks = [] ∨ ∃ b o, a = some ⟨b, o, none⟩ ∧ lo ≤ b ∧ b < hi ∧ ∀ i, i < ks.length → w.cell? ⟨b, o + i, none⟩ = some (.int .i64 (ks.getD i 0)))
def PtrsR (w : World) (lo hi : Nat) (a : Option Addr) (n : Nat) (ps : Nat → Nat) : Prop :=
 n = 0 ∨ ∃ b o, a = some ⟨b, o, none⟩ ∧ lo ≤ b ∧ b < hi ∧ ∀ i, i < n → w.cell? ⟨b, o + i, none⟩ = some (.pointer (some ⟨ps i, 0, none⟩))
inductive NodeIn (w : World) : Nat → Nat → Nat → Tr → Prop where
 | mk (ks : List Int) (cs : List Tr) (lo hi b : Nat) (kv : Value) (a : Option Addr) (cap : Nat) (ps s : Nat → Nat)
     (hlo : lo ≤ b) (hhi : b < hi) (hs0 : b < s 0) (hsn : s cs.length ≤ hi) (hs : ∀ i, i < cs.length → s i ≤ s (i + 1))
     (hbox : w.heap[b]? = some (.cells #[kv, .slice a cs.length cap] 110 (0, 0)))
     (hk : IntsR w lo hi kv ks) (hlen : cs.length ≤ cap) (hcap : cap ≤ maxLen) (hat : PtrsR w lo hi a cs.length ps)
     (hkids : ∀ i (h : i < cs.length), NodeIn w (s i) (s (i + 1)) (ps i) cs[i]) :
     NodeIn w lo hi b (.mk ks cs)
theorem cell_of_blk {w w' : World} {b o : Nat} (h : w'.heap[b]? = w.heap[b]?) : w'.cell? ⟨b, o, none⟩ = w.cell? ⟨b, o, none⟩ := World.cell?_of_block (w := w) (a := ⟨b, o, none⟩) h
theorem IntsR.same {w w' : World} {lo hi : Nat} {v : Value} {ks : List Int} (h : IntsR w lo hi v ks) (hb : ∀ k, lo ≤ k → k < hi → w'.heap[k]? = w.heap[k]?) : IntsR w' lo hi v ks := by
 obtain ⟨a, cap, hv, h1, h2, hnl, h3⟩ := h
 refine ⟨a, cap, hv, h1, h2, hnl, ?_⟩
 rcases h3 with h3 | ⟨b, o, h3, h4, h5, h6⟩
 · exact .inl h3
 · exact .inr ⟨b, o, h3, h4, h5, fun i hi => by rw [cell_of_blk (hb b h4 h5)]; exact h6 i hi⟩
theorem IntsR.widen {w : World} {lo hi lo' hi' : Nat} {v : Value} {ks : List Int} (h : IntsR w lo hi v ks) (h1 : lo' ≤ lo) (h2 : hi ≤ hi') : IntsR w lo' hi' v ks := by
 obtain ⟨a, cap, hv, g1, g2, hnl, h3⟩ := h
 refine ⟨a, cap, hv, g1, g2, hnl, ?_⟩
 rcases h3 with h3 | ⟨b, o, h3, h4, h5, h6⟩
 · exact .inl h3
 · exact .inr ⟨b, o, h3, by omega, by omega, h6⟩
theorem IntsR.in {w : World} {lo hi : Nat} {v : Value} {ks : List Int} (h : IntsR w lo hi v ks) : IntsIn w hi v ks := by
 obtain ⟨a, cap, hv, g1, g2, hnl, h3⟩ := h
 refine ⟨a, cap, hv, g1, g2, hnl, ?_⟩
 rcases h3 with h3 | ⟨b, o, h3, h4, h5, h6⟩
 · exact .inl h3
 · exact .inr ⟨b, o, h3, h5, h6⟩
theorem PtrsR.same {w w' : World} {lo hi n : Nat} {a : Option Addr} {ps : Nat → Nat} (h : PtrsR w lo hi a n ps) (hb : ∀ k, lo ≤ k → k < hi → w'.heap[k]? = w.heap[k]?) : PtrsR w' lo hi a n ps := by
 rcases h with h3 | ⟨b, o, h3, h4, h5, h6⟩
 · exact .inl h3
 · exact .inr ⟨b, o, h3, h4, h5, fun i hi => by rw [cell_of_blk (hb b h4 h5)]; exact h6 i hi⟩
theorem PtrsR.widen {w : World} {lo hi lo' hi' n : Nat} {a : Option Addr} {ps : Nat → Nat} (h : PtrsR w lo hi a n ps) (h1 : lo' ≤ lo) (h2 : hi ≤ hi') : PtrsR w lo' hi' a n ps := by
 rcases h with h3 | ⟨b, o, h3, h4, h5, h6⟩
 · exact .inl h3
 · exact .inr ⟨b, o, h3, by omega, by omega, h6⟩
theorem steps_le {s : Nat → Nat} {n : Nat} (hs : ∀ i, i < n → s i ≤ s (i + 1)) : ∀ i j, i ≤ j → j ≤ n → s i ≤ s j := by
 intro i j hij
 induction hij with
 | refl => intro _; exact Nat.le_refl _
 | step h ih => intro hj; exact Nat.le_trans (ih (by omega)) (hs _ (by omega))
theorem NodeIn.widen {w : World} {lo hi b : Nat} {t : Tr} (h : NodeIn w lo hi b t) : ∀ {lo' hi' : Nat}, lo' ≤ lo → hi ≤ hi' → NodeIn w lo' hi' b t := by
 cases h with
 | mk ks cs lo hi b kv a cap ps s hlo hhi hs0 hsn hs hbox hk hlen hcap hat hkids =>
   intro lo' hi' h1 h2
   exact .mk ks cs lo' hi' b kv a cap ps s (by omega) (by omega) hs0 (by omega) hs hbox (hk.widen h1 h2) hlen hcap (hat.widen h1 h2) hkids
theorem NodeIn.same {w w' : World} {lo hi b : Nat} {t : Tr} (h : NodeIn w lo hi b t) : (∀ k, lo ≤ k → k < hi → w'.heap[k]? = w.heap[k]?) → NodeIn w' lo hi b t := by
 induction h with
 | mk ks cs lo hi b kv a cap ps s hlo hhi hs0 hsn hs hbox hk hlen hcap hat hkids ih =>
   intro hb
   refine .mk ks cs lo hi b kv a cap ps s hlo hhi hs0 hsn hs ((hb b hlo hhi).trans hbox) (hk.same hb) hlen hcap (hat.same hb) (fun i hi' => ih i hi' (fun k h1 h2 => hb k ?_ ?_))
   · have := steps_le hs 0 i (by omega) (by omega); omega
   · have := steps_le hs (i + 1) cs.length (by omega) (by omega); omega
theorem NodeIn.range {w : World} {lo hi b : Nat} {t : Tr} (h : NodeIn w lo hi b t) : lo ≤ b ∧ b < hi ∧ b < w.heap.size := by
 cases h with
 | mk ks cs lo hi b kv a cap ps s hlo hhi hs0 hsn hs hbox hk hlen hcap hat hkids => exact ⟨hlo, hhi, (Array.getElem?_eq_some_iff.1 hbox).1⟩
theorem IntsOwn.inR {w : World} {lo : Nat} {v : Value} {ks : List Int} (h : IntsOwn w lo v ks) : IntsR w lo w.heap.size v ks := by
 have h0 := h
 obtain ⟨h1, ⟨h2, h3⟩ | ⟨g, cap, cur, hv, hb, hg, hn, hm, hs, ht⟩⟩ := h
 · obtain rfl : ks = [] := List.length_eq_zero_iff.1 h3
   exact ⟨none, 0, h2, by simp, by unfold maxLen; omega, fun _ => rfl, .inl rfl⟩
 · refine ⟨_, cap, hv, hn, hm, by simp, .inr ⟨g, 0, rfl, hb, (Array.getElem?_eq_some_iff.1 hg).1, fun i hi => ?_⟩⟩
   subst hv
   rw [Nat.zero_add, World.ownsRow.cellAt h0 i (by omega)]
   simp [hi]
set_option maxRecDepth 100000 in
set_option maxHeartbeats 1000000 in
theorem clone_c {v : Value} {ks : List Int} (w : World) (hk : IntsAt w v ks) (hn : ks.length ≤ 1048576) :
   Calls Tryd.prog 117 #[v] w fun e w' => ∃ v', e = .returned v' ∧ IntsOwn w' w.heap.size v' ks ∧ Below w.heap.size w w' := by
 obtain ⟨a, cap, rfl, hnl, h3⟩ := hk
 have q22 : ∀ (w : World) (a : Option Addr) (n c n' c' : Nat), (binOp .eql 22 (.slice a n c) (.slice none n' c')).run Tryd.prog w = .ok (.bool a.isNone) w := fun w a n c n' c' => Lib.run_eql_slice_nil w _ _ a n c n' c' Tryd.underlying22
 have h00 : IntsOwn (w.alloc (.cells #[] 3)) w.heap.size (.slice (some ⟨w.heap.size, 0, none⟩) 0 0) [] := World.ownsRow_made w #[] 0 (Nat.le_refl _) (by unfold maxLen; omega) rfl
 have hb0 : Below w.heap.size w (w.alloc (.cells #[] 3)) := (Below.refl _ _).alloc (Nat.le_refl _) _
 rcases a with _ | p
 · obtain rfl := hnl rfl
   obtain rfl : ks = [] := by
     rcases h3 with h | ⟨b, o, h, _⟩
     · exact h
     · cases h
   clear h3 h00 hb0
   go_enter Tryd.func117, Tryd.ntmps117
   go_wp2_with fail
   go_ret
   exact ⟨_, rfl, ⟨rfl, .inl ⟨rfl, rfl⟩⟩, Below.refl _ _⟩
 · have hsrc : IntsAt (w.alloc (.cells #[] 3)) (.slice (some p) ks.length cap) ks := by
     refine ⟨some p, cap, rfl, by simp, ?_⟩
     rcases h3 with h | ⟨b, o, h, hc⟩
     · exact .inl h
     · refine .inr ⟨b, o, h, fun i hi => ?_⟩
       have h1 := hc i hi
       rw [below_cell hb0 (World.block_lt_of_cell? w _ h1)]
       exact h1
   have H00 := Lib.hid h00
   have HB0 := Lib.hid hb0
   have HSRC := Lib.hid hsrc
   have hln : ([] : List Int).length + ks.length ≤ 17592186044416 := by simp; omega
   have hlo : w.heap.size ≤ (w.alloc (.cells #[] 3)).heap.size := by simp
   have HLN := Lib.hid hln
   have HLO := Lib.hid hlo
   clear h3 h00 hb0 hsrc hn hnl hln hlo
   go_enter Tryd.func117, Tryd.ntmps117
   go_wp2_with (at_builtin; refine wpList_append_ints rfl _ _ rfl w.heap.size _ _ [] ks rfl H00.out rfl HSRC.out HLN.out HLO.out ?_; intro v2 w2 hown2 hbel2 _ hsh2; obtain ⟨a2, c2, rfl⟩ := hsh2; have HOX := Lib.hid hown2; have HBX := Lib.hid hbel2; clear hown2 hbel2)
   go_ret
   exact ⟨_, rfl, by simpa using HOX.out, HB0.out.trans HBX.out⟩
end Go.Proofs.YticfkfjijnfcbaaDoor

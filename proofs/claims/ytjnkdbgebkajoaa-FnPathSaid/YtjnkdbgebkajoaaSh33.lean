/- Whether a list has a number: the laws' own function. -/
import Derived.Test.YtjnkdbgebkajoaaProg
import Derived.Test.YtjnkdbgebkajoaaSh0
import Derived.Test.YtjnkdbgebkajoaaSh15
import Derived.Test.YtjnkdbgebkajoaaDrawHas
import Derived.Test.YtjnkdbgebkajoaaSh12
import Derived.Test.YtjnkdbgebkajoaaSh16
import Derived.WalkSmall

/- The draws that are those of a tree and a number: for paths and for visits. -/
namespace Go.Proofs.Ytjnkdbgebkajoaa
open Go.RowKit

set_option maxHeartbeats 1000000 in
set_option maxRecDepth 100000 in
theorem DrawPathOf_c {w : World} {B : Nat} {v : Value} {bs : List Nat} (h : BytesIn w B v bs) (w' : World) (hbw : Below B w w') (hB : B ≤ w'.heap.size) :
    Calls Try.prog 38 #[v] w' (HasDrawn w') := by
  obtain ⟨W1, hW1⟩ : ∃ W1, W1 = w'.alloc (.cells #[.slice none 0 0, .slice none 0 0] 26) := ⟨_, rfl⟩
  have hs1 : W1.heap.size = w'.heap.size + 1 := by rw [hW1]; simp
  have hb1 : Below w'.heap.size w' W1 := by rw [hW1]; exact (Below.refl _ _).alloc (Nat.le_refl _) _
  have hk1 : W1.heap[w'.heap.size]? = some (.cells #[.slice none 0 0, .slice none 0 0] 26 (0, 0)) := by rw [hW1, new_blk]
  have HD := Lib.hid (drawHas_c h W1 (hbw.trans (hb1.mono hB)) (by omega))
  have HW1 := Lib.hid hW1
  have H1 := Lib.hid (And.intro hb1 hk1)
  clear hW1 hb1 hk1 hbw h
  go_enter Try.func38, Try.ntmps38
  go_wp2_with fail
  rw [← HW1.out]
  refine HD.out.mono ?_
  rintro e w2 ⟨kv, cv, t, key, rfl, ht2, hw2, hkey, hb2⟩
  obtain ⟨b1, b2, b3, b4, b5, b6, rfl, rfl⟩ := ht2.slices
  have hs2 := hb2.size
  have hk2 := (hb2.block w'.heap.size (by omega)).trans H1.out.2
  obtain ⟨r1, r2, r3, r4⟩ := box2 hk2
  have H2 := Lib.hid (And.intro ht2 (And.intro hkey (And.intro (H1.out.1.trans (hb2.mono (by omega))) (And.intro hk2 hb2))))
  clear ht2 hkey hb2 hk2
  go_wp2_with fail
  obtain ⟨wf, hwf⟩ : ∃ wf, wf = (w2.setCell ⟨w'.heap.size, 0, none⟩ (.slice b1 b2 b3)).setCell ⟨w'.heap.size, 1, none⟩ (.slice b4 b5 b6) := ⟨_, rfl⟩
  have hfb : wf.heap[w'.heap.size]? = some (.cells #[.slice b1 b2 b3, .slice b4 b5 b6] 26 (0, 0)) := by
    rw [hwf]; exact set_blk (o := 1) _ (set_blk (o := 0) _ H2.out.2.2.2.1)
  obtain ⟨d1, d2, d3, d4⟩ := box2 hfb
  have hsf : wf.heap.size = w2.heap.size := by rw [hwf]; simp
  rw [← hwf]
  refine bodyPost_ret (v := .tuple #[.agg #[.slice b1 b2 b3, .slice b4 b5 b6], .int .i64 key]) (by simp [results, Try.results38, go_sem, d1, d2]) rfl ⟨_, _, t, key, rfl, ?_, hw2, H2.out.2.1, ?_⟩
  · refine H2.out.1.same (fun k hk => ?_) (fun k hk => ⟨by omega, by omega⟩)
    rw [hwf, set_other _ _ _ _ _ (by omega), set_other _ _ _ _ _ (by omega)]
  · rw [hwf]; exact (H2.out.2.2.1.setCell (by show w'.heap.size ≤ w'.heap.size; omega) _).setCell (by show w'.heap.size ≤ w'.heap.size; omega) _

set_option maxHeartbeats 1000000 in
set_option maxRecDepth 100000 in
theorem DrawVisitsOf_c {w : World} {B : Nat} {v : Value} {bs : List Nat} (h : BytesIn w B v bs) (w' : World) (hbw : Below B w w') (hB : B ≤ w'.heap.size) :
    Calls Try.prog 44 #[v] w' (HasDrawn w') := by
  obtain ⟨W1, hW1⟩ : ∃ W1, W1 = w'.alloc (.cells #[.slice none 0 0, .slice none 0 0] 26) := ⟨_, rfl⟩
  have hs1 : W1.heap.size = w'.heap.size + 1 := by rw [hW1]; simp
  have hb1 : Below w'.heap.size w' W1 := by rw [hW1]; exact (Below.refl _ _).alloc (Nat.le_refl _) _
  have hk1 : W1.heap[w'.heap.size]? = some (.cells #[.slice none 0 0, .slice none 0 0] 26 (0, 0)) := by rw [hW1, new_blk]
  have HD := Lib.hid (drawHas_c h W1 (hbw.trans (hb1.mono hB)) (by omega))
  have HW1 := Lib.hid hW1
  have H1 := Lib.hid (And.intro hb1 hk1)
  clear hW1 hb1 hk1 hbw h
  go_enter Try.func44, Try.ntmps44
  go_wp2_with fail
  rw [← HW1.out]
  refine HD.out.mono ?_
  rintro e w2 ⟨kv, cv, t, key, rfl, ht2, hw2, hkey, hb2⟩
  obtain ⟨b1, b2, b3, b4, b5, b6, rfl, rfl⟩ := ht2.slices
  have hs2 := hb2.size
  have hk2 := (hb2.block w'.heap.size (by omega)).trans H1.out.2
  obtain ⟨r1, r2, r3, r4⟩ := box2 hk2
  have H2 := Lib.hid (And.intro ht2 (And.intro hkey (And.intro (H1.out.1.trans (hb2.mono (by omega))) (And.intro hk2 hb2))))
  clear ht2 hkey hb2 hk2
  go_wp2_with fail
  obtain ⟨wf, hwf⟩ : ∃ wf, wf = (w2.setCell ⟨w'.heap.size, 0, none⟩ (.slice b1 b2 b3)).setCell ⟨w'.heap.size, 1, none⟩ (.slice b4 b5 b6) := ⟨_, rfl⟩
  have hfb : wf.heap[w'.heap.size]? = some (.cells #[.slice b1 b2 b3, .slice b4 b5 b6] 26 (0, 0)) := by
    rw [hwf]; exact set_blk (o := 1) _ (set_blk (o := 0) _ H2.out.2.2.2.1)
  obtain ⟨d1, d2, d3, d4⟩ := box2 hfb
  have hsf : wf.heap.size = w2.heap.size := by rw [hwf]; simp
  rw [← hwf]
  refine bodyPost_ret (v := .tuple #[.agg #[.slice b1 b2 b3, .slice b4 b5 b6], .int .i64 key]) (by simp [results, Try.results44, go_sem, d1, d2]) rfl ⟨_, _, t, key, rfl, ?_, hw2, H2.out.2.1, ?_⟩
  · refine H2.out.1.same (fun k hk => ?_) (fun k hk => ⟨by omega, by omega⟩)
    rw [hwf, set_other _ _ _ _ _ (by omega), set_other _ _ _ _ _ (by omega)]
  · rw [hwf]; exact (H2.out.2.2.1.setCell (by show w'.heap.size ≤ w'.heap.size; omega) _).setCell (by show w'.heap.size ≤ w'.heap.size; omega) _

end Go.Proofs.Ytjnkdbgebkajoaa

/- Going down a path: what each node on it has. -/
namespace Go.Proofs.Ytjnkdbgebkajoaa
open Go.RowKit

namespace Tr
theorem depth_kid (k : List Int) : ∀ (c : List Tr) (i : Nat) (h : i < c.length), c[i].depth < (Tr.mk k c).depth := by
  intro c
  have key : ∀ (c : List Tr) (i : Nat) (h : i < c.length), c[i].depth ≤ depths c := by
    intro c
    induction c with
    | nil => intro i h; simp at h
    | cons t r ih =>
      intro i h
      cases i with
      | zero => simp [depths]; omega
      | succ i => have := ih i (by simpa using h); simp only [List.getElem_cons_succ, depths]; omega
  intro i h
  have := key c i h
  simp only [depth]
  omega
/-- A path is shorter than the tree is deep. -/
theorem path_deep' (key : Int) : ∀ (n : Nat) (t : Tr), t.weight ≤ n → Well t → (t.path key).1.length < t.depth := by
  intro n
  induction n with
  | zero =>
    rintro ⟨k, c⟩ hn hw
    simp only [weight] at hn
    have h1 := length_le_weights c
    have h0 : c.length = 0 := by omega
    by_cases hf : place key k < k.length ∧ k.getD (place key k) 0 = key
    · rw [path_found hf]; simp [depth]
    · rw [path_leaf hf h0]; simp [depth]
  | succ n ih =>
    rintro ⟨k, c⟩ hn hw
    by_cases hf : place key k < k.length ∧ k.getD (place key k) 0 = key
    · rw [path_found hf]; simp [depth]
    by_cases h0 : c.length = 0
    · rw [path_leaf hf h0]; simp [depth]
    have hl := hw.inner h0
    have hp := place_le key k
    have hi : place key k < c.length := by omega
    rw [path_inner hf hi]
    simp only [weight] at hn
    have hk := weight_get_le c _ hi
    have h1 := ih c[place key k] (by omega) (hw.kid _ hi)
    have h2 := depth_kid k c _ hi
    simp only [List.length_cons]
    omega
theorem path_deep (key : Int) (t : Tr) (hw : Well t) : (t.path key).1.length < t.depth := path_deep' key t.weight t (Nat.le_refl _) hw

theorem walk_step {key : Int} {k : List Int} {c : List Tr} (hw : Well (.mk k c)) {i : Int} {r : List Int} {ok : Bool} (hp : (Tr.mk k c).path key = (i :: r, ok)) :
    ∃ (j : Nat) (h : j < c.length), i = (j : Int) ∧ key ∉ k ∧ c[j].path key = (r, ok) ∧ Well c[j] := by
  by_cases hf : place key k < k.length ∧ k.getD (place key k) 0 = key
  · rw [path_found hf] at hp; cases hp
  by_cases h0 : c.length = 0
  · rw [path_leaf hf h0] at hp; cases hp
  have hl := hw.inner h0
  have hple := place_le key k
  have hi : place key k < c.length := by omega
  rw [path_inner hf hi] at hp
  simp only [Prod.mk.injEq, List.cons.injEq] at hp
  exact ⟨place key k, hi, hp.1.1.symm, fun hm => hf (place_mem hw.keys hm), by rw [← hp.1.2, ← hp.2], hw.kid _ hi⟩

theorem walk_end {key : Int} {k : List Int} {c : List Tr} (hw : Well (.mk k c)) {ok : Bool} (hp : (Tr.mk k c).path key = ([], ok)) :
    ok = decide (key ∈ k) ∧ (ok = false → c.length = 0) := by
  by_cases hf : place key k < k.length ∧ k.getD (place key k) 0 = key
  · rw [path_found hf] at hp
    simp only [Prod.mk.injEq, true_and] at hp
    have hm : key ∈ k := by
      have h2 := hf.2
      rw [List.getD_eq_getElem?_getD, List.getElem?_eq_getElem hf.1] at h2
      rw [← h2]
      exact List.getElem_mem hf.1
    exact ⟨by rw [← hp]; simp [hm], fun h => by rw [← hp] at h; cases h⟩
  have hn : key ∉ k := fun hm => hf (place_mem hw.keys hm)
  by_cases h0 : c.length = 0
  · rw [path_leaf hf h0] at hp
    simp only [Prod.mk.injEq, true_and] at hp
    exact ⟨by rw [← hp]; simp [hn], fun _ => h0⟩
  have hl := hw.inner h0
  have hple := place_le key k
  rw [path_inner hf (by omega)] at hp
  cases hp
end Tr
end Go.Proofs.Ytjnkdbgebkajoaa

/- Whether a list has a number: the laws' own function. -/
namespace Go.Proofs.Ytjnkdbgebkajoaa
open Go.RowKit

set_option maxHeartbeats 1000000 in
theorem ftHas_c (ks : List Int) (n : Int) (v : Value) (w : World) (B : Nat) (hB : B ≤ w.heap.size) (hk : IntsIn w B v ks) :
    Calls Try.prog 43 #[v, .int .i64 n] w fun e w' => e = .returned (.bool (decide (n ∈ ks))) ∧ Below w.heap.size w w' := by
  obtain ⟨a, cap, rfl, h1, h2, _, h3⟩ := hk
  unfold maxLen at h2
  have HK := Lib.hid h3
  clear h3
  go_enter Try.func43, Try.ntmps43
  go_wp2_with fail
  go_loopw [6, 9] (fun s6 i wr => ∃ (j : Nat), j ≤ ks.length ∧ i = .int .i64 j ∧ Hid (n ∉ ks.take j) ∧ Below w.heap.size w wr) (fun _ i _ => ks.length - (intOf i).toNat)
  case atStart => exact ⟨0, Nat.zero_le _, rfl, Lib.hid (by simp), Below.refl _ _⟩
  case round =>
    obtain ⟨j, hj, rfl, HN, hbel⟩ := hrel
    by_cases hlt : j < ks.length
    · rcases HK.out with h | ⟨b, off, rfl, hb, hat⟩
      · simp [h] at hlt
      have ha1 : wr.cell? ⟨b, off + j, none⟩ = some (.int .i64 (ks.getD j 0)) := by rw [below_cell hbel (by omega)]; exact hat j hlt
      have hjl : (j : Int) < (ks.length : Int) := by omega
      have HM : Hid (ks.getD j 0 ∈ ks ∧ ∀ m, m ∈ ks.take (j + 1) ↔ m ∈ ks.take j ∨ m = ks.getD j 0) := Lib.hid (by
        have e : ks.getD j 0 = ks[j] := by simp [List.getD_eq_getElem?_getD, hlt]
        refine ⟨by rw [e]; exact List.getElem_mem hlt, fun m => ?_⟩
        rw [List.take_succ_eq_append_getElem hlt, e, List.mem_append, List.mem_singleton])
      clear hat
      generalize ks.getD j 0 = x at ha1 HM
      by_cases hx : x = n
      · subst hx
        have hD : decide (x ∈ ks) = true := by simp [HM.out.1]
        have hxx : (x == x) = true := by simp
        have HD := Lib.hid hD
        clear hD
        go_wp2_with fail
        go_ret
        exact ⟨ret_bool HD.out.symm, hbel⟩
      · have hxn : (x == n) = false := by simp [hx]
        have HN' : Hid (n ∉ ks.take (j + 1)) := Lib.hid (fun h => ((HM.out.2 n).1 h).elim HN.out (fun e => hx e.symm))
        clear hx
        go_wp2_with fail
        go_roundw
        case rel => exact ⟨j + 1, by omega, by go_num, HN', hbel⟩
        case measure => simp [intOf]; omega
    · obtain rfl : j = ks.length := by omega
      have hjl : ¬ ((ks.length : Nat) : Int) < (ks.length : Int) := by omega
      have hD : decide (n ∈ ks) = false := by have := HN.out; rw [List.take_length] at this; simp [this]
      have HD := Lib.hid hD
      clear hD
      go_wp2_with fail
      go_ret
      exact ⟨ret_bool HD.out.symm, hbel⟩
end Go.Proofs.Ytjnkdbgebkajoaa

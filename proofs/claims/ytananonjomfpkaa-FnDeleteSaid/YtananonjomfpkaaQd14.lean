/- Finding: the nodes on the way to a number, as they lie in memory. -/
import Derived.Test.YtananonjomfpkaaQd13
/- Draws of a tree, a width and a number by DrawInsertKey. -/
namespace Go.Proofs.Ytananonjomfpkaa
open Go.RowKit
set_option maxHeartbeats 1000000 in
set_option maxRecDepth 100000 in
theorem DrawDeleteKey_c {w : World} {B : Nat} {v : Value} {bs : List Nat} (h : BytesIn w B v bs) (w' : World) (hbw : Below B w w') (hB : B ≤ w'.heap.size) :
   Calls Try.prog 15 #[v] w' (InsDrawn w') := by
 obtain ⟨W1, hW1⟩ : ∃ W1, W1 = w'.alloc (.cells #[.slice none 0 0, .slice none 0 0] 26) := ⟨_, rfl⟩
 have hs1 : W1.heap.size = w'.heap.size + 1 := by rw [hW1]; simp
 have hb1 : Below w'.heap.size w' W1 := by rw [hW1]; exact (Below.refl _ _).alloc (Nat.le_refl _) _
 have hk1 : W1.heap[w'.heap.size]? = some (.cells #[.slice none 0 0, .slice none 0 0] 26 (0, 0)) := by rw [hW1, new_blk]
 have HD := Lib.hid (drawIns_c h W1 (hbw.trans (hb1.mono hB)) (by omega))
 have HW1 := Lib.hid hW1
 have H1 := Lib.hid (And.intro hb1 hk1)
 clear hW1 hb1 hk1 hbw h
 go_enter Try.func15, Try.ntmps15
 go_wp2_with fail
 rw [← HW1.out]
 refine HD.out.mono ?_
 rintro e w2 ⟨kv, cv, t, wide, key, rfl, hwd, ht2, hw2, hkey, hb2⟩
 obtain ⟨b1, b2, b3, b4, b5, b6, rfl, rfl⟩ := ht2.slices
 have hs2 := hb2.size
 have hk2 := (hb2.block w'.heap.size (by omega)).trans H1.out.2
 obtain ⟨r1, r2, r3, r4⟩ := box2 hk2
 have H2 := Lib.hid (And.intro ht2 (And.intro hkey (And.intro (H1.out.1.trans (hb2.mono (by omega))) (And.intro hk2 hwd))))
 clear ht2 hkey hb2 hk2 hwd
 go_wp2_with fail
 obtain ⟨wf, hwf⟩ : ∃ wf, wf = (w2.setCell ⟨w'.heap.size, 0, none⟩ (.slice b1 b2 b3)).setCell ⟨w'.heap.size, 1, none⟩ (.slice b4 b5 b6) := ⟨_, rfl⟩
 have hfb : wf.heap[w'.heap.size]? = some (.cells #[.slice b1 b2 b3, .slice b4 b5 b6] 26 (0, 0)) := by
   rw [hwf]; exact set_blk (o := 1) _ (set_blk (o := 0) _ H2.out.2.2.2.1)
 obtain ⟨d1, d2, d3, d4⟩ := box2 hfb
 have hsf : wf.heap.size = w2.heap.size := by rw [hwf]; simp
 rw [← hwf]
 refine bodyPost_ret (v := .tuple #[.agg #[.slice b1 b2 b3, .slice b4 b5 b6], .int .i64 wide, .int .i64 key]) (by simp [results, Try.results15, go_sem, d1, d2]) rfl ⟨_, _, t, wide, key, rfl, H2.out.2.2.2.2, ?_, hw2, H2.out.2.1, ?_⟩
 · refine H2.out.1.same (fun k hk => ?_) (fun k hk => ⟨by omega, by omega⟩)
   rw [hwf, set_other _ _ _ _ _ (by omega), set_other _ _ _ _ _ (by omega)]
 · rw [hwf]; exact (H2.out.2.2.1.setCell (by show w'.heap.size ≤ w'.heap.size; omega) _).setCell (by show w'.heap.size ≤ w'.heap.size; omega) _
end Go.Proofs.Ytananonjomfpkaa
/- How many keys the fullest leaf has; the model's RoomOf. -/
namespace Go.Proofs.Ytananonjomfpkaa
open Go.RowKit
namespace Tr
mutual
def leafMax : Tr → Nat
 | .mk k c => max (if c.length = 0 then k.length else 0) (leafMaxs c)
def leafMaxs : List Tr → Nat
 | [] => 0
 | t :: r => max (leafMax t) (leafMaxs r)
end
mutual
theorem leafMax_le {wide : Int} (h0 : 0 ≤ wide) : ∀ (t : Tr) (least depth : Int), nodesB wide least depth t = true → (t.leafMax : Int) ≤ wide
 | .mk k c, least, depth, h => by
   simp only [nodesB, Bool.and_eq_true, Bool.or_eq_true] at h
   have h1 : (k.length : Int) ≤ wide := by have := h.1.1; simp [inB] at this; omega
   rcases h.2 with h2 | h2
   · have hc : c = [] := by simpa using h2
     subst hc
     simp [leafMax, leafMaxs]; omega
   · have := leafMaxs_le h0 c _ h2.2
     simp only [leafMax]
     split <;> omega
theorem leafMaxs_le {wide : Int} (h0 : 0 ≤ wide) : ∀ (c : List Tr) (depth : Int), nodesAllB wide depth c = true → (leafMaxs c : Int) ≤ wide
 | [], depth, _ => by simpa [leafMaxs] using h0
 | t :: r, depth, h => by
   simp only [nodesAllB, Bool.and_eq_true] at h
   have h1 := leafMax_le h0 t _ _ h.1
   have h2 := leafMaxs_le h0 r _ h.2
   simp only [leafMaxs]; omega
end
def roomB (wide : Int) (t : Tr) : Int := if validB wide t then wide - t.leafMax else -1
theorem valid_wide {wide : Int} {t : Tr} (h : validB wide t = true) : 2 ≤ wide ∧ wide ≤ 6 := by
 simp only [validB, Bool.and_eq_true, inB, decide_eq_true_eq] at h
 exact h.1
end Tr
end Go.Proofs.Ytananonjomfpkaa
/- A tree that is valid for some width has few keys. -/
namespace Go.Proofs.Ytananonjomfpkaa
open Go.RowKit
namespace Tr
theorem keys_length (k : List Int) (c : List Tr) : (Tr.mk k c).keys.length = lens (keyss c) + k.length := by
 have hk := length_keyss c
 simp only [keys, upto_length]
 rw [List.take_of_length_le (by omega), List.take_of_length_le (by omega)]
mutual
theorem small {wide : Int} (h2 : 2 ≤ wide) : ∀ (t : Tr) (d : Int), nodesB wide (wide / 2) d t = true → t.weight + 1 ≤ 2 * t.keys.length
 | .mk k c, d, h => by
   simp only [nodesB, Bool.and_eq_true, Bool.or_eq_true] at h
   have h1 : wide / 2 ≤ (k.length : Int) := by have := h.1.1; simp [inB] at this; omega
   rw [keys_length]
   simp only [weight]
   rcases h.2 with h3 | h3
   · have hc : c = [] := by simpa using h3
     subst hc
     simp [weights, keyss, lens]; omega
   · have := smalls h2 c _ h3.2
     omega
theorem smalls {wide : Int} (h2 : 2 ≤ wide) : ∀ (c : List Tr) (d : Int), nodesAllB wide d c = true → weights c ≤ 2 * lens (keyss c)
 | [], d, _ => by simp [weights]
 | t :: r, d, h => by
   simp only [nodesAllB, Bool.and_eq_true] at h
   have h3 := small h2 t _ h.1
   have h4 := smalls h2 r _ h.2
   simp only [weights, keyss, lens]; omega
end
theorem few : ∀ (l : List Int) (lo : Int), l.Pairwise (· < ·) → (∀ x, x ∈ l → lo ≤ x ∧ x ≤ 99) → (l.length : Int) ≤ max 0 (100 - lo)
 | [], lo, _, _ => by simp; omega
 | a :: r, lo, hp, hm => by
   rw [List.pairwise_cons] at hp
   have h1 := hm a (by simp)
   have h2 := few r (a + 1) hp.2 (fun x hx => ⟨by have := hp.1 x hx; omega, (hm x (by simp [hx])).2⟩)
   simp only [List.length_cons]
   omega
theorem sorted_mem {ks : List Int} (h : sortedB ks = true) : ∀ x, x ∈ ks → 0 ≤ x ∧ x ≤ 99 := fun x hx => by
 obtain ⟨i, hi, rfl⟩ := List.mem_iff_getElem.1 hx
 simp only [sortedB, List.all_eq_true, List.mem_range] at h
 have h1 := h i hi
 simp only [okAt, Bool.and_eq_true, inB, decide_eq_true_eq] at h1
 have h2 := h1.1
 simpa [List.getD_eq_getElem?_getD, hi] using h2
theorem valid_keys {wide : Int} {t : Tr} (h : validB wide t = true) : sortedB t.keys = true := by
 simp only [validB, Bool.and_eq_true] at h; exact h.2.2
theorem valid_well {wide : Int} {t : Tr} (h : validB wide t = true) : Well t := by
 have h' := h
 simp only [validB, Bool.and_eq_true] at h'
 exact ⟨⟨wide, 0, _, h'.2.1⟩, pairwise_of_sorted h'.2.2⟩
theorem valid_small {wide : Int} {t : Tr} (h : validB wide t = true) : t.weight ≤ 200 := by
 have hk := valid_keys h
 have hf := few t.keys 0 (pairwise_of_sorted hk) (sorted_mem hk)
 have hw := valid_wide h
 simp only [validB, Bool.and_eq_true] at h
 cases t with
 | mk k c =>
   rw [keys_length] at hf
   have h' := h.2.1
   simp only [nodesB, Bool.and_eq_true, Bool.or_eq_true] at h'
   simp only [weight]
   rcases h'.2 with h3 | h3
   · have hc : c = [] := by simpa using h3
     subst hc
     simp [weights] at hf ⊢; omega
   · have := smalls hw.1 c _ h3.2
     omega
end Tr
end Go.Proofs.Ytananonjomfpkaa
/- Finding: the nodes on the way to a number, as they lie in memory. -/
namespace Go.Proofs.Ytananonjomfpkaa
open Go.RowKit
inductive NodeAt (w : World) (lo hi : Nat) : Nat → Tr → Prop where
 | mk (ks : List Int) (cs : List Tr) (b : Nat) (kv : Value) (a : Option Addr) (cap : Nat) (ps : Nat → Nat)
     (hlo : lo ≤ b) (hhi : b < hi)
     (hbox : w.heap[b]? = some (.cells #[kv, .slice a cs.length cap] 99 (0, 0)))
     (hk : IntsR w lo hi kv ks) (hlen : cs.length ≤ cap) (hcap : cap ≤ maxLen) (hat : PtrsR w lo hi a cs.length ps)
     (hkids : ∀ i (h : i < cs.length), NodeAt w lo hi (ps i) cs[i]) : NodeAt w lo hi b (.mk ks cs)
theorem NodeAt.parts {w : World} {lo hi b : Nat} {ks : List Int} {cs : List Tr} (h : NodeAt w lo hi b (.mk ks cs)) :
   ∃ (kv : Value) (a : Option Addr) (cap : Nat) (ps : Nat → Nat), lo ≤ b ∧ b < hi ∧ w.heap[b]? = some (.cells #[kv, .slice a cs.length cap] 99 (0, 0)) ∧ IntsR w lo hi kv ks ∧ cs.length ≤ cap ∧ cap ≤ maxLen ∧ PtrsR w lo hi a cs.length ps ∧
     ∀ i (h : i < cs.length), NodeAt w lo hi (ps i) cs[i] := by
 cases h with
 | mk _ _ _ kv a cap ps hlo hhi hbox hk hlen hcap hat hkids => exact ⟨kv, a, cap, ps, hlo, hhi, hbox, hk, hlen, hcap, hat, hkids⟩
theorem NodeAt.widen {w : World} {lo hi lo' hi' b : Nat} {t : Tr} (h : NodeAt w lo hi b t) (h1 : lo' ≤ lo) (h2 : hi ≤ hi') : NodeAt w lo' hi' b t := by
 induction h with
 | mk ks cs b kv a cap ps hlo hhi hbox hk hlen hcap hat hkids ih =>
   exact .mk ks cs b kv a cap ps (by omega) (by omega) hbox (hk.widen h1 h2) hlen hcap (hat.widen h1 h2) ih
theorem NodeAt.same {w w' : World} {lo hi b : Nat} {t : Tr} (h : NodeAt w lo hi b t) (hb : ∀ k, lo ≤ k → k < hi → w'.heap[k]? = w.heap[k]?) : NodeAt w' lo hi b t := by
 induction h with
 | mk ks cs b kv a cap ps hlo hhi hbox hk hlen hcap hat hkids ih =>
   exact .mk ks cs b kv a cap ps hlo hhi ((hb b hlo hhi).trans hbox) (hk.same hb) hlen hcap (hat.same hb) ih
theorem NodeIn.nodeAt {w : World} {lo hi b : Nat} {t : Tr} (h : NodeIn w lo hi b t) : NodeAt w lo hi b t := by
 induction h with
 | mk ks cs lo hi b kv a cap ps s hlo hhi hs0 hsn hs hbox hk hlen hcap hat hkids ih =>
   refine .mk ks cs b kv a cap ps hlo hhi hbox hk hlen hcap hat (fun i hi' => (ih i hi').widen ?_ ?_)
   · have := steps_le hs 0 i (by omega) (by omega); omega
   · have := steps_le hs (i + 1) cs.length (by omega) (by omega); omega
structure Stop (w : World) (lo hi b : Nat) (t : Tr) (kv : Value) (a : Option Addr) (cap : Nat) : Prop where
 node : NodeAt w lo hi b t
 box : w.heap[b]? = some (.cells #[kv, .slice a t.cs.length cap] 99 (0, 0))
 keys : IntsR w lo hi kv t.ks
 low : lo ≤ b
 high : b < hi
 fits : t.cs.length ≤ cap
 cap : cap ≤ maxLen
 well : Tr.Well t
 light : t.weight ≤ 1048576
inductive WayIn (w : World) (lo hi : Nat) (c : Int) : Nat → Tr → List (Nat × Tr) → Prop where
 | leaf (b : Nat) (t : Tr) (kv : Value) (a : Option Addr) (cap : Nat) (hs : Stop w lo hi b t kv a cap) (h0 : t.cs.length = 0) : WayIn w lo hi c b t [(b, t)]
 | inner (b : Nat) (t : Tr) (kv : Value) (qb qo cap p : Nat) (u : Tr) (xs : List (Nat × Tr)) (hs : Stop w lo hi b t kv (some ⟨qb, qo, none⟩) cap) (h0 : t.cs.length = t.ks.length + 1)
     (q1 : lo ≤ qb) (q2 : qb < hi) (hp : w.cell? ⟨qb, qo + place c t.ks, none⟩ = some (.pointer (some ⟨p, 0, none⟩))) (hr : WayIn w lo hi c p u xs) : WayIn w lo hi c b t ((b, t) :: xs)
theorem WayIn.widen {w : World} {lo hi lo' hi' b : Nat} {c : Int} {t : Tr} {xs : List (Nat × Tr)} (h : WayIn w lo hi c b t xs) (h1 : lo' ≤ lo) (h2 : hi ≤ hi') : WayIn w lo' hi' c b t xs := by
 have hst : ∀ {b t kv a cap}, Stop w lo hi b t kv a cap → Stop w lo' hi' b t kv a cap := fun s =>
   ⟨s.node.widen h1 h2, s.box, s.keys.widen h1 h2, by have := s.low; omega, by have := s.high; omega, s.fits, s.cap, s.well, s.light⟩
 induction h with
 | leaf b t kv a cap hs h0 => exact .leaf b t kv a cap (hst hs) h0
 | inner b t kv qb qo cap p u xs hs h0 q1 q2 hp hr ih => exact .inner b t kv qb qo cap p u xs (hst hs) h0 (by omega) (by omega) hp ih
theorem way_at {w : World} {lo hi b : Nat} {t : Tr} (c : Int) (h : NodeAt w lo hi b t) : Tr.Well t → t.weight ≤ 1048576 → ∃ xs, xs.map Prod.snd = t.way c ∧ WayIn w lo hi c b t xs := by
 induction h with
 | mk ks cs b kv a cap ps hlo hhi hbox hk hlen hcap hat hkids ih =>
   intro hw hwt
   have hst : Stop w lo hi b (.mk ks cs) kv a cap := ⟨.mk ks cs b kv a cap ps hlo hhi hbox hk hlen hcap hat hkids, hbox, hk, hlo, hhi, hlen, hcap, hw, hwt⟩
   by_cases hc : cs.length = 0
   · exact ⟨[(b, .mk ks cs)], by rw [Tr.way_leaf hc]; rfl, .leaf b _ kv a cap hst hc⟩
   · have hcl := Tr.Well.inner hw hc
     have hp := place_le c ks
     have hi' : place c ks < cs.length := by omega
     have hwk := Tr.weight_get_le cs _ hi'
     simp only [Tr.weight] at hwt
     obtain ⟨xs, h1, h2⟩ := ih _ hi' (Tr.Well.kid hw _ hi') (by omega)
     rcases hat with h | ⟨qb, qo, rfl, q1, q2, q3⟩
     · exact absurd h hc
     exact ⟨(b, .mk ks cs) :: xs, by rw [Tr.way_inner hi', List.map_cons, h1], .inner b _ kv qb qo cap _ _ xs hst hcl q1 q2 (q3 _ hi') h2⟩
theorem WayIn.stops {w : World} {lo hi b : Nat} {c : Int} {t : Tr} {xs : List (Nat × Tr)} (h : WayIn w lo hi c b t xs) : ∀ x ∈ xs, ∃ kv a cap, Stop w lo hi x.1 x.2 kv a cap := by
 induction h with
 | leaf b t kv a cap hs h0 => intro x hx; simp at hx; subst hx; exact ⟨_, _, _, hs⟩
 | inner b t kv qb qo cap p u xs hs h0 q1 q2 hp hr ih =>
   intro x hx
   rcases List.mem_cons.1 hx with rfl | hx
   · exact ⟨_, _, _, hs⟩
   · exact ih x hx
def wayEnc (c : Int) (x : Nat × Tr) : Array Value := #[.pointer (some ⟨x.1, 0, none⟩), .int .i64 (place c x.2.ks)]
end Go.Proofs.Ytananonjomfpkaa

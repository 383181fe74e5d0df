/- The contract of the program's greatest: the greatest key below a node. -/
import Derived.Test.YtananonjomfpkaaQf29
import Derived.Test.YtananonjomfpkaaQfS15
/- Deleting: the key that stands in for one is the key ahead, and lies in a leaf: plain data. -/
namespace Go.Proofs.Ytananonjomfpkaa
open Go.RowKit
namespace Tr
theorem upto_own (kss : List (List Int)) (k : List Int) (j : Nat) (hj : j < k.length) : ∀ i, j < i → k.getD j 0 ∈ upto kss k i := by
 intro i
 induction i with
 | zero => intro h; omega
 | succ i ih =>
   intro h
   rw [upto_succ]
   by_cases hji : j < i
   · exact List.mem_append_left _ (ih hji)
   · obtain rfl : j = i := by omega
     refine List.mem_append_right _ ?_
     unfold part
     refine List.mem_append_right _ ?_
     simp [hj, List.getD_eq_getElem?_getD]
theorem kid_place {k : List Int} {cs : List Tr} (h : Well (.mk k cs)) (i : Nat) (hi : i < cs.length) {x : Int} (hx : x ∈ cs[i].keys) :
   place x k = i ∧ ¬ (place x k < k.length ∧ k.getD (place x k) 0 = x) := by
 have hcl := Well.inner h (by omega)
 obtain ⟨R, h1, -⟩ := upto_pre (keyss cs) k (i + 1) (max k.length cs.length) (by omega)
 have hk : (Tr.mk k cs).keys = upto (keyss cs) k i ++ (cs[i].keys ++ ((k[i]?).toList ++ R)) := by
   rw [Tr.keys, h1, upto_succ, part, keyss_get cs _ hi]; simp
 have hs := h.2
 rw [hk] at hs
 obtain ⟨-, s2, s3⟩ := List.pairwise_append.1 hs
 obtain ⟨-, -, s4⟩ := List.pairwise_append.1 s2
 have hlt : ∀ j, j < i → k.getD j 0 < x := fun j hj => s3 _ (upto_own _ _ j (by omega) i hj) x (List.mem_append_left _ hx)
 have hgt : i < k.length → x < k.getD i 0 := fun hik => s4 x hx _ (List.mem_append_left _ (by simp [hik, List.getD_eq_getElem?_getD]))
 have hp : place x k = i := place_eq (by omega) hlt (fun hik => by have := hgt hik; omega)
 refine ⟨hp, fun ⟨h1, h2⟩ => ?_⟩
 rw [hp] at h1 h2
 have := hgt h1
 omega
theorem kid_path {k : List Int} {cs : List Tr} (h : Well (.mk k cs)) (i : Nat) (hi : i < cs.length) {x : Int} (hx : x ∈ cs[i].keys) :
   (Tr.mk k cs).path x = ((i : Int) :: (cs[i].path x).1, (cs[i].path x).2) := by
 obtain ⟨hp, hn⟩ := kid_place h i hi hx
 subst hp
 exact path_inner hn hi
theorem kid_depth {k : List Int} {cs : List Tr} (h : Tops (.mk k cs)) (i : Nat) (hi : i < cs.length) : cs[i].depth + 1 = (Tr.mk k cs).depth := by
 obtain ⟨w, l, d, -, hn⟩ := h
 have h1 := nodes_depth w _ l d _ (Nat.le_refl _) hn
 rcases (nodesB_parts hn).2 with ⟨h2, _⟩ | ⟨_, _, _, _, h5⟩
 · omega
 · have h3 := nodes_depth w _ _ _ _ (Nat.le_refl _) (h5 i hi)
   omega
theorem depth_leaf {k : List Int} {cs : List Tr} (h : cs.length = 0) : (Tr.mk k cs).depth = 1 := by
 rw [List.length_eq_zero_iff.1 h]; rfl
theorem greatest_facts : ∀ (n : Nat) (t : Tr), t.weight ≤ n → Well t → Full t →
   (∃ A, t.keys = A ++ [t.greatest]) ∧ (t.path t.greatest).2 = true ∧ (t.path t.greatest).1.length + 1 = t.depth := by
 intro n
 have hleaf : ∀ (k : List Int) (cs : List Tr), cs.length = 0 → Well (.mk k cs) → Full (.mk k cs) →
     (∃ A, (Tr.mk k cs).keys = A ++ [(Tr.mk k cs).greatest]) ∧ ((Tr.mk k cs).path (Tr.mk k cs).greatest).2 = true ∧ ((Tr.mk k cs).path (Tr.mk k cs).greatest).1.length + 1 = (Tr.mk k cs).depth := by
   intro k cs hc hw hf
   have hk0 := Full.keys hf
   have hne : k ≠ [] := fun e => hk0 (by rw [e]; rfl)
   have hg : (Tr.mk k cs).greatest = k.getLast hne := by
     rw [greatest_leaf hc, List.getLast_eq_getElem, List.getD_eq_getElem?_getD, List.getElem?_eq_getElem (by omega)]; rfl
   have hm : (Tr.mk k cs).greatest ∈ k := by rw [hg]; exact List.getLast_mem hne
   refine ⟨⟨k.dropLast, by rw [keys_leaf hc, hg]; exact (List.dropLast_concat_getLast hne).symm⟩, ?_⟩
   rw [path_found (place_mem hw.keys hm), depth_leaf hc]
   exact ⟨rfl, rfl⟩
 induction n with
 | zero =>
   rintro ⟨k, cs⟩ hn
   simp only [weight] at hn
   exact hleaf k cs (by have := length_le_weights cs; omega)
 | succ n ih =>
   rintro ⟨k, cs⟩ hn hw hf
   by_cases hc : cs.length = 0
   · exact hleaf k cs hc hw hf
   · have hcl := Well.inner hw hc
     have hi : cs.length - 1 < cs.length := by omega
     have hwt := weight_get_le cs _ hi
     simp only [weight] at hn
     obtain ⟨⟨A, hA⟩, h2, h3⟩ := ih cs[cs.length - 1] (by omega) (Well.kid hw _ hi) (Tops.kid hf.tops _ hi)
     have hg := greatest_inner (k := k) hi
     have hmem : cs[cs.length - 1].greatest ∈ cs[cs.length - 1].keys := by rw [hA]; simp
     rw [hg]
     have hp := kid_path hw _ hi hmem
     refine ⟨⟨upto (keyss cs) k (cs.length - 1) ++ A, ?_⟩, by rw [hp]; exact h2, ?_⟩
     · have hm : max k.length cs.length = cs.length - 1 + 1 := by omega
       have hkn : k[cs.length - 1]? = none := List.getElem?_eq_none (by omega)
       rw [Tr.keys, hm, upto_succ, part, keyss_get cs _ hi, hkn]
       simp [hA]
     · rw [hp, ← kid_depth hf.tops _ hi]
       simp only [List.length_cons]
       omega
end Tr
end Go.Proofs.Ytananonjomfpkaa
/- What is asked of a node below which a key is deleted, and the shape of what is left. Plain data. -/
namespace Go.Proofs.Ytananonjomfpkaa
open Go.RowKit
namespace Tr
def Lacks (key : Int) (t : Tr) : Prop := Well t ∧ Full t ∧ (t.path key).2 = true
theorem Lacks.leaf {key : Int} {k : List Int} {c : List Tr} (h : Lacks key (.mk k c)) (h0 : c.length = 0) : place key k < k.length := by
 obtain ⟨hw, hf, hp⟩ := h
 by_cases ho : place key k < k.length ∧ k.getD (place key k) 0 = key
 · exact ho.1
 · rw [path_leaf ho h0] at hp; cases hp
theorem Lacks.kid {key : Int} {k : List Int} {c : List Tr} (h : Lacks key (.mk k c)) (h0 : c.length ≠ 0) :
   c.length = k.length + 1 ∧ 1 ≤ k.length ∧ place key k < c.length ∧ Lacks (if ownKey key k then (kidAt c (place key k)).greatest else key) (kidAt c (place key k)) := by
 obtain ⟨hw, hf, hp⟩ := h
 have hcl := Well.inner hw h0
 have hk := Full.keys hf
 have hle := place_le key k
 have hi : place key k < c.length := by omega
 refine ⟨hcl, by omega, hi, ?_⟩
 rw [kidAt_get hi]
 have hwk := Well.kid hw _ hi
 have hfk := Tops.kid hf.tops _ hi
 refine ⟨hwk, hfk, ?_⟩
 by_cases ho : ownKey key k
 · rw [if_pos ho]
   exact (greatest_facts _ _ (Nat.le_refl _) hwk hfk).2.1
 · rw [if_neg ho]
   have ho' : ¬ (place key k < k.length ∧ k.getD (place key k) 0 = key) := ho
   rw [path_inner ho' hi] at hp
   exact hp
def Less (t : Tr) (k : List Int) (c : List Tr) : Prop := Shaped t ∧ t.ks.length ≤ k.length ∧ t.cs.length ≤ c.length
theorem less_mk {k k' : List Int} {c c' : List Tr} (h1 : k'.length = k.length) (h2 : c'.length = c.length) (hc : c.length = k.length + 1) : Less (.mk k' c') k c :=
 ⟨.inr (by simp only [Tr.cs, Tr.ks]; omega), by simp only [Tr.ks]; omega, by simp only [Tr.cs]; omega⟩
theorem mended_less {half : Int} {k : List Int} {c : List Tr} {i : Nat} (hc : c.length = k.length + 1) (hk : 1 ≤ k.length) (hi : i < c.length) : Less (mended (mend half c i) k c i) k c := by
 have hah : ∀ j, j + 1 < c.length → Less (ahead k c j) k c := fun j hj => by
   unfold ahead; exact less_mk (by simp) (setTwo_length hj) hc
 have hbe : ∀ j, j + 1 < c.length → Less (behind k c j) k c := fun j hj => by
   unfold behind; exact less_mk (by simp) (setTwo_length hj) hc
 have hjo : ∀ j, j + 1 < c.length → Less (joined k c j) k c := fun j hj => by
   unfold joined
   have h1 := takeAt_length (k := k) (i := j) (by omega)
   dsimp only
   generalize Tr.mk ((kidAt c j).ks ++ k.getD j 0 :: (kidAt c (j + 1)).ks) ((kidAt c j).cs ++ (kidAt c (j + 1)).cs) = u
   have h2 := setOne_length (c := c) (i := j) (x := u) hj
   exact ⟨.inr (by show (setOne c j u).length = (takeAt k j).length + 1; omega), by show (takeAt k j).length ≤ _; omega, by show (setOne c j u).length ≤ _; omega⟩
 unfold mend
 split
 · rename_i h; exact hah _ (by omega)
 · split
   · rename_i h; exact hbe _ h.1
   · split
     · exact hjo _ (by omega)
     · exact hjo _ (by omega)
theorem repair_less {half : Int} {k : List Int} {c : List Tr} {i b j : Nat} (hc : c.length = k.length + 1) (hk : 1 ≤ k.length) (hi : i < c.length) : Less (repair half k c i b j).t k c := by
 by_cases h : ((kidAt c i).ks.length : Int) < half
 · rw [repair_eq h]; exact mended_less hc hk hi
 · rw [repair_none h]; exact less_mk rfl rfl hc
theorem del_less {half : Int} : ∀ (n : Nat) (key : Int) (k : List Int) (c : List Tr), Lacks key (.mk k c) → Less (del half (n + 1) key (.mk k c)).t k c := by
 intro n key k c h
 by_cases h0 : c.length = 0
 · rw [del_leaf h0]
   have h1 := takeAt_length (h.leaf h0)
   exact ⟨.inl (by simp [Tr.cs]), by simp only [Tr.ks]; omega, by simp [Tr.cs]⟩
 · obtain ⟨hc, hk, hi, -⟩ := h.kid h0
   have hless : ∀ {k' : List Int} {c' : List Tr} {t : Tr}, k'.length = k.length → c'.length = c.length → Less t k' c' → Less t k c := fun e1 e2 ⟨a1, a2, a3⟩ => ⟨a1, by omega, by omega⟩
   by_cases ho : ownKey key k
   · rw [del_hit h0 ho]
     exact hless (by simp) (setKid_length hi) (repair_less (by rw [setKid_length hi]; simp [hc]) (by simpa using hk) (by rw [setKid_length hi]; exact hi))
   · rw [del_miss h0 ho]
     exact hless rfl (setKid_length hi) (repair_less (by rw [setKid_length hi]; exact hc) hk (by rw [setKid_length hi]; exact hi))
theorem del_count {half : Int} : ∀ (n : Nat) (key : Int) (t : Tr), (del half n key t).b + (del half n key t).j ≤ n := by
 intro n
 induction n with
 | zero => intro key t; cases t; simp [del]
 | succ n ih =>
   rintro key ⟨k, c⟩
   have hr : ∀ (k' : List Int) (c' : List Tr) (i b j : Nat), b + j ≤ n → (repair half k' c' i b j).b + (repair half k' c' i b j).j ≤ n + 1 := fun k' c' i b j h => by
     by_cases hh : ((kidAt c' i).ks.length : Int) < half
     · rw [repair_eq hh]
       show b + (if mend half c' i < 2 then 1 else 0) + (j + (if mend half c' i < 2 then 0 else 1)) ≤ n + 1
       split <;> omega
     · rw [repair_none hh]; show b + j ≤ n + 1; omega
   by_cases h0 : c.length = 0
   · rw [del_leaf h0]; show 0 + 0 ≤ n + 1; omega
   · by_cases ho : ownKey key k
     · rw [del_hit h0 ho]; exact hr _ _ _ _ _ (ih _ _)
     · rw [del_miss h0 ho]; exact hr _ _ _ _ _ (ih _ _)
end Tr
end Go.Proofs.Ytananonjomfpkaa
/- The contract of removeBelow at a leaf. -/
namespace Go.Proofs.Ytananonjomfpkaa
open Go.RowKit
set_option maxRecDepth 100000 in
set_option maxHeartbeats 4000000 in
theorem removeLeaf_c (key : Int) (k : List Int) (hN : k.length ≤ 100000) (hsort : k.Pairwise (· < ·)) (hp : place key k < k.length) (w : World) (F : Cells) (b gb : Nat) (gn sh : Value) (bo jo : Nat) (wide : Int)
   (h : Nd w F b (.mk k [])) (hg : SBox w gb gn bo jo sh wide) (hgF : ∀ o, ¬ F gb o) :
   Calls Try.prog 121 #[.pointer (some ⟨gb, 0, none⟩), .pointer (some ⟨b, 0, none⟩), .int .i64 key] w (Repaired w F b gb gn bo jo sh wide (.mk (takeAt k (place key k)) [])) := by
 obtain ⟨kids, Fk, Fc, kv, cv, hk0, hbox, hkr, hcr, hkids, sb, sk, sc, ss, ap, hlt⟩ := h.parts
 have hk1 : kids = [] := by cases kids with | nil => rfl | cons => cases hk0
 clear hk0
 subst hk1
 have hlk := hkr.1
 have hlc := hcr.1
 have hblt := (Array.getElem?_eq_some_iff.1 hbox).1
 have hglt := (Array.getElem?_eq_some_iff.1 hg).1
 have hs := sep_iff.1 ap
 have hgb : gb ≠ b := fun e => hgF 0 (e ▸ sb 0)
 obtain ⟨ka, kc, rfl⟩ := hkr.shown
 obtain ⟨ca, cc, rfl⟩ := hcr.shown
 simp only [List.length_map, List.length_nil] at hbox hkr hcr
 obtain ⟨i, hi⟩ : ∃ i, i = place key k := ⟨_, rfl⟩
 rw [← hi] at hp ⊢
 have hin := rowF_in (k := k) hkr
 obtain ⟨x1, x2, x3, x4⟩ := box2 hbox
 have HBOX := Lib.hid (And.intro hbox hg)
 have HR := Lib.hid (And.intro hkr hcr)
 have HK := Lib.hid (And.intro sb (And.intro sk (And.intro sc hs)))
 have HL := Lib.hid (And.intro hlk (And.intro hlc hlt))
 have HI := Lib.hid hi
 have HP := Lib.hid hp
 have HSORT := Lib.hid hsort
 have HIN := Lib.hid hin
 have HGF := Lib.hid hgF
 clear hlk hlc hlt hkr hcr hkids sb sk sc ss hs ap h hbox hg hi hsort hin hgF hp
 go_enter Try.func121, Try.ntmps121
 go_upto_region 0 with (fail)
 go_cut [6] from 7 to 15 (fun s6 wc => s6 = .int .i64 (i : Int) ∧ KeptF (fun _ _ => False) w wc)
 case first =>
   go_region_with (first
     | (go_at_call 70; refine (less_c key _).mono ?_; rintro e w9 ⟨rfl, rfl⟩)
     | (go_at_call 105; refine (place_less_c _ w.heap.size (HIN.out.later (C := w.heap.size) (((Below.refl w.heap.size w).drew).alloc (Nat.le_refl _) _) (Nat.le_refl _)) HSORT.out (by omega) key key (Lib.hid rfl) _ (box1 (new_blk w.drew _)).1).mono ?_; rintro e w9 ⟨rfl, rfl⟩))
   all_goals (
     go_wp2_with fail
     go_meet
     exact ⟨by rw [HI.out], (KeptF.alloc _ _ _).trans (KeptF.drew _ _)⟩)
 case rest =>
   obtain ⟨rfl, hkc⟩ := hcut
   have hsc := hkc.size
   have hbc := hkc.block' HBOX.out.1 (fun _ h => h)
   have hgc := hkc.block' HBOX.out.2 (fun _ h => h)
   have hkrc : RowF wc Fk (.slice ka k.length kc) (k.map (Value.int .i64)) := HR.out.1.keep hkc (fun _ _ _ h => h)
   have hcrc : RowF wc Fc (.slice ca 0 cc) (([] : List KidD).map KidD.ptr) := HR.out.2.keep hkc (fun _ _ _ h => h)
   clear x1 x2 x3 x4
   obtain ⟨x1, x2, x3, x4⟩ := box2 hbc
   have HKC := Lib.hid (And.intro hkc (And.intro hbc (And.intro hgc (And.intro hkrc hcrc))))
   clear hkc hbc hgc hkrc hcrc
   go_wp2_with fail
   refine (takeInts_c wc Fk _ _ i HKC.out.2.2.2.1 (by simpa using HP.out) (ints_oneCell .i64 k) (by rw [List.length_map]; omega)).mono ?_
   rintro e w2 ⟨v2, rfl, hr2, hk2⟩
   obtain ⟨va2, vc2, rfl⟩ := hr2.shown
   have hb2 := hk2.block' HKC.out.2.1 (fun q h => HK.out.2.2.2.bk b q rfl h)
   clear x1 x2 x3 x4
   obtain ⟨x1, x2, x3, x4⟩ := box2 hb2
   have H2 := Lib.hid (And.intro hr2 (And.intro hk2 hb2))
   clear hr2 hk2 hb2
   go_wp2_with fail
   obtain ⟨hr2, hk2, hb2⟩ := H2.out
   obtain ⟨sb, sk, sc, hs⟩ := HK.out
   obtain ⟨hkc, hbc, hgc, hkrc, hcrc⟩ := HKC.out
   obtain ⟨hlk, hlc, hlt⟩ := HL.out
   have hgF := HGF.out
   have hsz2 := hk2.size
   obtain ⟨W6, hW6⟩ : ∃ W6, W6 = w2.setCell ⟨b, 0, none⟩ (.slice va2 (takeAt (k.map (Value.int .i64)) i).length vc2) := ⟨_, rfl⟩
   rw [← hW6]
   have hk6 : KeptF (boxOf b) w2 W6 := by rw [hW6]; exact KeptF.setCell _ _ _ _ rfl
   have hb6 : W6.heap[b]? = some (.cells #[.slice va2 (takeAt (k.map (Value.int .i64)) i).length vc2, .slice ca 0 cc] 99 (0, 0)) := by rw [hW6]; exact set_blk (o := 0) _ hb2
   have hrk : RowF W6 Fk (.slice va2 (takeAt (k.map (Value.int .i64)) i).length vc2) ((takeAt k i).map (Value.int .i64)) := by
     rw [takeAt_map]
     exact hr2.keep hk6 (fun q r h g => hs.bk _ _ g h)
   have hrc : RowF W6 Fc (.slice ca 0 cc) (([] : List KidD).map KidD.ptr) := (hcrc.keep hk2 (fun q r h g => hs.kc _ _ g h)).keep hk6 (fun q r h g => hs.bc _ _ g h)
   have hnd := Nd.intro hb6 hrk hrc (fun y hy => by simp at hy) hs
   refine bodyPost_ret (v := .tuple #[]) (by simp [results, Try.results121, go_sem]) rfl ?_
   refine ⟨_, rfl, hnd, ?_, ?_, ?_⟩
   · rintro q r (h | h | h | ⟨y, hy, h⟩)
     · subst h; exact .inl (sb r)
     · exact .inl (sk q r h)
     · exact .inl (sc q r h)
     · simp at hy
   · have a1 := hkc.mono (G := fun q r => F q r ∨ q = gb) (fun _ _ _ h => h.elim)
     have a2 := a1.trans (hk2.mono (fun q r _ h => .inl (.inl (sk q r h))))
     exact a2.trans (hk6.mono (fun q r _ h => .inl (.inl (by have h' : q = b := h; subst h'; exact sb r))))
   · exact hk6.block' (hk2.block' hgc (fun q h => hgF q (sk _ _ h))) (fun q h => hgb h)
end Go.Proofs.Ytananonjomfpkaa
/- The contract of the program's greatest: the greatest key below a node. -/
namespace Go.Proofs.Ytananonjomfpkaa
open Go.RowKit
set_option maxRecDepth 100000 in
set_option maxHeartbeats 4000000 in
theorem greatest_c {w : World} {lo hi b : Nat} {t : Tr} (ht : NodeAt w lo hi b t) (hf : Tr.Full t) (hw : t.weight ≤ 1048576) (hhi : hi ≤ w.heap.size) :
   Calls Try.prog 141 #[.pointer (some ⟨b, 0, none⟩)] w fun e w'' => e = .returned (.int .i64 t.greatest) ∧ Below w.heap.size w w'' := by
 have HT := Lib.hid ht
 have HF := Lib.hid hf
 clear ht hf
 go_enter Try.func141, Try.ntmps141
 go_wp2_with fail
 go_loopg [0] t.weight (fun k s0 wr => ∃ (tr : Tr) (b' : Nat), s0 = .pointer (some ⟨b', 0, none⟩) ∧ NodeAt w lo hi b' tr ∧ Tr.Full tr ∧
   tr.weight ≤ k ∧ tr.greatest = t.greatest ∧ Below w.heap.size w wr ∧ tr.weight ≤ 1048576)
 case atStart => exact ⟨t, b, rfl, HT.out, HF.out, Nat.le_refl _, rfl, Below.refl _ _, hw⟩
 case round =>
   obtain ⟨tr, b', rfl, htr, hfl, hk, hgr, hbel, hwt⟩ := hrel
   cases tr with
   | mk ks cs =>
   have htr' : NodeAt wr lo hi b' (.mk ks cs) := htr.same (fun k _ h => hbel.block k (by omega))
   obtain ⟨kv, a, cap, ps, hlo, hhb, hbox, hki, hlen, hcap, hat, hkids⟩ := htr'.parts
   have hkids0 : ∀ i (h : i < cs.length), NodeAt w lo hi (ps i) cs[i] := fun i h => (hkids i h).same (fun k _ h => (hbel.block k (by omega)).symm)
   obtain ⟨ka, kcap, rfl, k1, k2, k3, k4⟩ := hki
   have hkn := hfl.keys
   unfold maxLen at k2 hcap
   have hl0 := Tr.length_le_weights cs
   have hwt' := hwt
   simp only [Tr.weight] at hwt'
   cases hcl : cs.length with
   | zero =>
     obtain ⟨m, hm⟩ : ∃ m, ks.length = m + 1 := ⟨ks.length - 1, by omega⟩
     have hg := Tr.greatest_leaf (k := ks) hcl
     rw [hm, Nat.add_sub_cancel] at hg
     rcases k4 with h | ⟨kb, off, rfl, hb1, hb2, hat4⟩
     · exact absurd (by rw [h]; rfl) hkn
     have ha' : wr.cell? ⟨kb, off + m, none⟩ = some (.int .i64 (ks.getD m 0)) := hat4 m (by omega)
     rw [← hg, hgr] at ha'
     rw [hm, hcl] at hbox
     rw [hm] at k1
     have HBEL := Lib.hid hbel
     obtain ⟨x1, x2, x3, x4⟩ := box2 hbox
     clear hat4 hg hat hkids htr hfl hk hbel hgr hbox hm hkn hwt hwt' hl0 hcl htr' hkids0
     go_wp2_with fail
     go_quiet (fail)
     go_wp2_with fail
     go_ret
     exact ⟨rfl, below_drewN HBEL.out _⟩
   | succ m =>
     have hic : m < cs.length := by omega
     have hgi := Tr.greatest_inner (k := ks) (cs := cs) (by omega)
     rcases hat with h | ⟨qb, qo, rfl, q1, q2, q3⟩
     · omega
     have z1 := q3 m hic
     have hgm : cs[m].greatest = t.greatest := by
       rw [← hgr, hgi]; congr 1; simp [hcl]
     rw [hcl] at hbox hlen
     obtain ⟨x1, x2, x3, x4⟩ := box2 hbox
     have HR := Lib.hid (And.intro (hkids0 m hic) (And.intro (hfl.tops.kid m hic) (And.intro hk (And.intro hgm hbel))))
     have HCL := Lib.hid hcl
     clear q3 hbox hkids hkids0 hfl hk hbel hgm hgi hgr htr htr' k4 hcl
     go_wp2_with fail
     go_quiet (fail)
     go_wp2_with fail
     go_roundg cs[m].weight
     case measure => have h := HR.out.2.2.1; simp only [Tr.weight] at h; have := Tr.weight_get_le cs m hic; omega
     case rel =>
       exact ⟨cs[m], ps m, rfl, HR.out.1, HR.out.2.1, Nat.le_refl _, HR.out.2.2.2.1, below_drewN HR.out.2.2.2.2 _, by have := Tr.weight_get_le cs m hic; omega⟩
end Go.Proofs.Ytananonjomfpkaa

/- The iterator over the parts of a node: kids and keys by turns. -/
import Derived.Test.YtananonjomfpkaaQd23
/- The model's KeyAt. -/
namespace Go.Proofs.Ytananonjomfpkaa
open Go.RowKit
def keyL (keys : List Int) (r : Int) : Int × Bool := if 0 ≤ r ∧ r < (keys.length : Int) then (keys.getD r.toNat 0, true) else (0, false)
def Tr.keyAtB (r : Int) (t : Tr) : Int × Bool := if t.someB then keyL t.keys r else (0, false)
-- END
end Go.Proofs.Ytananonjomfpkaa
/- Finding: a key is found where it is among the keys in order; plain data. -/
namespace Go.Proofs.Ytananonjomfpkaa
open Go.RowKit
theorem sorted_get {ks : List Int} (h : ks.Pairwise (· < ·)) {i j : Nat} (hij : i < j) (hj : j < ks.length) : ks.getD i 0 < ks.getD j 0 := by
 have := List.pairwise_iff_getElem.1 h i j (by omega) hj hij
 simpa [List.getD_eq_getElem?_getD, hj, show i < ks.length by omega] using this
theorem place_get {ks : List Int} (h : ks.Pairwise (· < ·)) {i : Nat} (hi : i < ks.length) : place (ks.getD i 0) ks = i :=
 place_eq (by omega) (fun j hj => sorted_get h hj hi) (fun _ => by omega)
theorem place_mem {ks : List Int} (h : ks.Pairwise (· < ·)) {x : Int} (hx : x ∈ ks) : place x ks < ks.length ∧ ks.getD (place x ks) 0 = x := by
 obtain ⟨i, hi, rfl⟩ := List.mem_iff_getElem.1 hx
 have e : ks[i] = ks.getD i 0 := by simp [List.getD_eq_getElem?_getD, hi]
 rw [e, place_get h hi]
 exact ⟨hi, rfl⟩
namespace Tr
theorem path_mem (key : Int) : ∀ (n : Nat) (t : Tr), t.weight ≤ n → Well t → (t.path key).2 = true → key ∈ t.keys := by
 intro n
 induction n with
 | zero =>
   rintro ⟨k, cs⟩ hn hw hp
   simp only [weight] at hn
   have hc : cs.length = 0 := by have := length_le_weights cs; omega
   by_cases hf : place key k < k.length ∧ k.getD (place key k) 0 = key
   · have := hf.1
     omega
   · rw [path_leaf hf hc] at hp
     cases hp
 | succ n ih =>
   rintro ⟨k, cs⟩ hn hw hp
   by_cases hf : place key k < k.length ∧ k.getD (place key k) 0 = key
   · refine (own_sub k cs).subset ?_
     have : k[place key k] = key := by have h := hf.2; simpa [List.getD_eq_getElem?_getD, hf.1] using h
     rw [← this]
     exact List.getElem_mem hf.1
   · by_cases hc : cs.length = 0
     · rw [path_leaf hf hc] at hp
       cases hp
     · have hcl := Well.inner hw hc
       have hpl := place_le key k
       have hi : place key k < cs.length := by omega
       rw [path_inner hf hi] at hp
       have hwt := weight_get_le cs _ hi
       simp only [weight] at hn
       exact (kid_sub _ hi).subset (ih _ (by omega) (Well.kid hw _ hi) hp)
theorem mem_path (key : Int) : ∀ (n : Nat) (t : Tr), t.weight ≤ n → Well t → key ∈ t.keys → (t.path key).2 = true := by
 intro n
 induction n with
 | zero =>
   rintro ⟨k, cs⟩ hn hw hm
   simp only [weight] at hn
   have hc : cs.length = 0 := by have := length_le_weights cs; omega
   rw [keys_leaf hc] at hm
   have hk : k = [] := List.length_eq_zero_iff.1 (by omega)
   rw [hk] at hm
   cases hm
 | succ n ih =>
   rintro ⟨k, cs⟩ hn hw hm
   by_cases hf : place key k < k.length ∧ k.getD (place key k) 0 = key
   · rw [path_found hf]
   · by_cases hc : cs.length = 0
     · rw [keys_leaf hc] at hm
       exact absurd (place_mem hw.keys hm) hf
     · have hcl := Well.inner hw hc
       have hpl := place_le key k
       have hi : place key k < cs.length := by omega
       rw [path_inner hf hi]
       have hwt := weight_get_le cs _ hi
       simp only [weight] at hn
       refine ih _ (by omega) (Well.kid hw _ hi) ?_
       obtain ⟨R, hk, hA, hR⟩ := Well.split hw hc key hi
       have hs := hw.2
       rw [hk] at hm hs
       rcases List.mem_append.1 hm with h | h
       · have := hA key h; omega
       rcases List.mem_append.1 h with h | h
       · exact h
       exfalso
       by_cases hpe : place key k = k.length
       · rw [hR hpe, hpe] at h
         simp at h
       · have hlt : place key k < k.length := by omega
         rw [List.getElem?_eq_getElem hlt] at h hs
         simp only [Option.toList_some, List.cons_append, List.nil_append, List.mem_cons] at h hs
         have hge := place_ge hlt
         have hne : ¬ k.getD (place key k) 0 = key := fun e => hf ⟨hlt, e⟩
         have e : k.getD (place key k) 0 = k[place key k] := by simp [List.getD_eq_getElem?_getD, hlt]
         rw [e] at hge hne
         rcases h with h | h
         · omega
         · have h2 := (List.pairwise_append.1 (List.pairwise_append.1 hs).2.1).2.1
           have := (List.pairwise_cons.1 h2).1 key h
           omega
theorem path_iff (key : Int) (t : Tr) (hw : Well t) : (t.path key).2 = true ↔ key ∈ t.keys :=
 ⟨path_mem key t.weight t (Nat.le_refl _) hw, mem_path key t.weight t (Nat.le_refl _) hw⟩
theorem hasB_iff (key : Int) (t : Tr) (hs : t.someB = true) : (t.pathB key).2 = true ↔ key ∈ t.keys := by
 rw [(someB_path key t).1 hs]
 exact path_iff key t (Well.of_some hs)
end Tr
end Go.Proofs.Ytananonjomfpkaa
/- Inserting: a tree whose nodes are as a valid tree's keeps such nodes. -/
namespace Go.Proofs.Ytananonjomfpkaa
open Go.RowKit
namespace Tr
def Over (wide least d : Int) : Tr → Prop
 | .mk k c => (least ≤ (k.length : Int) ∧ (k.length : Int) ≤ wide + 1) ∧ ((c.length = 0 ∧ d = 1) ∨ (c.length ≠ 0 ∧ d ≠ 1 ∧ c.length = k.length + 1 ∧ k.length ≠ 0 ∧ ∀ x ∈ c, nodesB wide (wide / 2) (d - 1) x = true))
theorem nodes_mem {wide least d : Int} {k : List Int} {c : List Tr} (h : nodesB wide least d (.mk k c) = true) :
   (least ≤ (k.length : Int) ∧ (k.length : Int) ≤ wide) ∧ ((c.length = 0 ∧ d = 1) ∨ (c.length ≠ 0 ∧ d ≠ 1 ∧ c.length = k.length + 1 ∧ k.length ≠ 0 ∧ ∀ x ∈ c, nodesB wide (wide / 2) (d - 1) x = true)) := by
 obtain ⟨h1, h2⟩ := nodesB_parts h
 refine ⟨h1, h2.imp id (fun ⟨a, b, c', e, f⟩ => ⟨a, b, c', e, fun x hx => ?_⟩)⟩
 obtain ⟨i, hi, rfl⟩ := List.getElem_of_mem hx
 exact f i hi
theorem nodes_of {wide least d : Int} {k : List Int} {c : List Tr} (h : (least ≤ (k.length : Int) ∧ (k.length : Int) ≤ wide) ∧ ((c.length = 0 ∧ d = 1) ∨ (c.length ≠ 0 ∧ d ≠ 1 ∧ c.length = k.length + 1 ∧ k.length ≠ 0 ∧ ∀ x ∈ c, nodesB wide (wide / 2) (d - 1) x = true))) :
   nodesB wide least d (.mk k c) = true := by
 obtain ⟨⟨h1, h2⟩, ⟨h3, rfl⟩ | ⟨h3, h4, h5, h6, h7⟩⟩ := h
 · exact nodesB_leaf h1 h2 h3
 · exact nodesB_inner h1 h2 h4 h5 h6 (fun i hi => h7 _ (List.getElem_mem hi))
theorem nodes_depth (wide : Int) : ∀ (n : Nat) (least d : Int) (t : Tr), t.weight ≤ n → nodesB wide least d t = true → (t.depth : Int) = d := by
 intro n
 induction n with
 | zero =>
   rintro least d ⟨k, c⟩ hn h
   simp only [weight] at hn
   have hc : c.length = 0 := by have := length_le_weights c; omega
   obtain ⟨_, h3⟩ := nodesB_parts h
   rcases h3 with h3 | h3
   · rw [List.length_eq_zero_iff.1 hc, h3.2]; rfl
   · exact absurd hc h3.1
 | succ n ih =>
   rintro least d ⟨k, c⟩ hn h
   obtain ⟨_, h3⟩ := nodesB_parts h
   rcases h3 with ⟨hc, hd⟩ | ⟨hc, hd, h5, h6, h7⟩
   · rw [List.length_eq_zero_iff.1 hc, hd]; rfl
   · simp only [weight] at hn
     have hk : ∀ i (hi : i < c.length), (c[i].depth : Int) = d - 1 := fun i hi => by
       have := weight_get_le c i hi
       exact ih _ _ _ (by omega) (h7 i hi)
     have h0 := hk 0 (by omega)
     have hs := depths_same (D := (d - 1).toNat) hc (fun i hi => by have := hk i hi; omega)
     rw [depth, hs]
     omega
end Tr
end Go.Proofs.Ytananonjomfpkaa
/- The iterator over the parts of a node: kids and keys by turns. -/
namespace Go.Proofs.Ytananonjomfpkaa
open Go.RowKit
attribute [local go_sem] Oper.semAt_some
inductive Part where
 | kid (i b : Nat)
 | key (k : Int)
def Part.enc : Part → Array Value
 | .kid _ b => #[.pointer (some ⟨b, 0, none⟩), .int .i64 0]
 | .key k => #[.pointer none, .int .i64 k]
def partAt (n : Nat) (ps : Nat → Nat) (ks : List Int) (i : Nat) : List Part :=
 (if i < n then [.kid i (ps i)] else []) ++ (if i < ks.length then [.key (ks.getD i 0)] else [])
def partsTo (n : Nat) (ps : Nat → Nat) (ks : List Int) (j : Nat) : List Part := (List.range j).flatMap (partAt n ps ks)
theorem partsTo_succ (n : Nat) (ps : Nat → Nat) (ks : List Int) (j : Nat) : partsTo n ps ks (j + 1) = partsTo n ps ks j ++ partAt n ps ks j := by
 simp [partsTo, List.range_succ]
theorem partsTo_pre (n : Nat) (ps : Nat → Nat) (ks : List Int) (j m : Nat) (h : j ≤ m) : partsTo n ps ks j <+: partsTo n ps ks m := by
 induction h with
 | refl => exact List.prefix_refl _
 | step _ ih => rw [partsTo_succ]; exact ih.trans (List.prefix_append _ _)
theorem parts_both {n : Nat} {ps : Nat → Nat} {ks : List Int} {j : Nat} (h1 : j < n) (h2 : j < ks.length) : partsTo n ps ks (j + 1) = partsTo n ps ks j ++ [.kid j (ps j)] ++ [.key (ks.getD j 0)] := by
 rw [partsTo_succ, partAt, if_pos h1, if_pos h2, List.append_assoc]
theorem parts_kid {n : Nat} {ps : Nat → Nat} {ks : List Int} {j : Nat} (h1 : j < n) (h2 : ¬ j < ks.length) : partsTo n ps ks (j + 1) = partsTo n ps ks j ++ [.kid j (ps j)] := by
 rw [partsTo_succ, partAt, if_pos h1, if_neg h2, List.append_nil]
theorem parts_key {n : Nat} {ps : Nat → Nat} {ks : List Int} {j : Nat} (h1 : ¬ j < n) (h2 : j < ks.length) : partsTo n ps ks (j + 1) = partsTo n ps ks j ++ [.key (ks.getD j 0)] := by
 rw [partsTo_succ, partAt, if_neg h1, if_pos h2, List.nil_append]
theorem pre_kid {n : Nat} {ps : Nat → Nat} {ks : List Int} {j M : Nat} (h1 : j < n) (hM : j < M) : partsTo n ps ks j ++ [.kid j (ps j)] <+: partsTo n ps ks M := by
 refine List.IsPrefix.trans ?_ (partsTo_pre n ps ks (j + 1) M hM)
 by_cases h2 : j < ks.length
 · rw [parts_both h1 h2]; exact List.prefix_append _ _
 · rw [parts_kid h1 h2]; exact List.prefix_refl _
theorem pre_both {n : Nat} {ps : Nat → Nat} {ks : List Int} {j M : Nat} (h1 : j < n) (h2 : j < ks.length) (hM : j < M) : partsTo n ps ks j ++ [.kid j (ps j)] ++ [.key (ks.getD j 0)] <+: partsTo n ps ks M := by
 rw [← parts_both h1 h2]; exact partsTo_pre n ps ks (j + 1) M hM
theorem pre_key {n : Nat} {ps : Nat → Nat} {ks : List Int} {j M : Nat} (h1 : ¬ j < n) (h2 : j < ks.length) (hM : j < M) : partsTo n ps ks j ++ [.key (ks.getD j 0)] <+: partsTo n ps ks M := by
 rw [← parts_key h1 h2]; exact partsTo_pre n ps ks (j + 1) M hM
set_option maxRecDepth 100000 in
set_option maxHeartbeats 2000000 in
theorem parts_iter {w₀ : World} {lo hi b : Nat} {ks : List Int} {cs : List Tr} {kv : Value} {a : Option Addr} {cap : Nat} {ps : Nat → Nat} (hhi : hi ≤ w₀.heap.size)
   (hlo : lo ≤ b) (hb : b < hi) (hbox : w₀.heap[b]? = some (.cells #[kv, .slice a cs.length cap] 99 (0, 0))) (hk : IntsR w₀ lo hi kv ks) (_hlen : cs.length ≤ cap) (_hcap : cap ≤ maxLen)
   (hat : PtrsR w₀ lo hi a cs.length ps) (_hsz1 : ks.length ≤ 1048576) (hsz2 : cs.length ≤ 1048576) :
   Iter Try.prog 133 #[.pointer (some ⟨b, 0, none⟩)] #[] Part.enc (fun k => lo ≤ k ∧ k < hi) (partsTo cs.length ps ks (max cs.length ks.length)) w₀ := by
 intro l J Jx Pv W hkeep hRd hbnd hJ hJx hY h0
 have hbl : ∀ k, lo ≤ k → k < hi → W.heap[k]? = w₀.heap[k]? := fun k h1 h2 => hkeep.block k (by omega) ⟨h1, h2⟩
 have hbox' := (hbl b hlo hb).trans hbox
 have hk' := hk.same hbl
 have hat' := hat.same hbl
 clear hbox hk hat hbl hkeep
 obtain ⟨ka, kcap, rfl, k1, k2, k3, k4⟩ := hk'
 unfold maxLen at _hcap k2
 refine callsIn_wide (n := 9).1 (callsIn_of_wp Try.func133 rfl trivial ?_ rfl)
 simp only [Try.ntmps133, List.size_toArray, List.length_cons, List.length_nil, Nat.reduceAdd, Nat.reduceSub, Array.replicate_succ, Array.replicate_zero, List.push_toArray, List.append_toArray, List.nil_append, List.cons_append]
 obtain ⟨x1, x2, x3, x4⟩ := box2 hbox'
 obtain ⟨M, hM⟩ : ∃ M, M = max cs.length ks.length := ⟨_, rfl⟩
 have HM := Lib.hid hM
 have K4 := Lib.hid k4
 have HAT := Lib.hid hat'
 have HBOX := Lib.hid hbox'
 clear k4 hat' hbox' hM
 rcases Nat.lt_or_ge cs.length ks.length with hlt | hge
 · gi_wp2
   gi_quiet (fail)
   gi_wp2
   have e0 : (ks.length : Int) = (M : Int) := by have := HM.out; omega
   rw [e0]
   clear e0
   gi_loopw [17] (fun i wr => ∃ (j : Nat), i = .int .i64 j ∧ j ≤ M ∧ J (partsTo cs.length ps ks j) Pv wr ∧ Keep Pv W wr) (fun i _ => M - (intOf i).toNat)
   case atStart => exact ⟨0, rfl, Nat.zero_le _, hJ _ _ _ _ _ h0 (Keep.drewN _ _ _) (fun k h => .inl h), Keep.drewN _ _ _⟩
   case round =>
     obtain ⟨j, rfl, hj, hJs, hkp⟩ := hrel
     have hM1 : cs.length ≤ M := by have := HM.out; omega
     have hM2 : ks.length ≤ M := by have := HM.out; omega
     by_cases hjM : j < M
     · have hbW := (Array.getElem?_eq_some_iff.1 HBOX.out).1
       obtain ⟨y1, y2, y3, y4⟩ := box2 ((hkp.block b hbW (hRd b ⟨hlo, hb⟩)).trans HBOX.out)
       clear x1 x2 x3 x4
       by_cases hkid : j < cs.length
       · rcases HAT.out with h | ⟨qb, qo, rfl, q1, q2, q3⟩
         · omega
         have cq : wr.cell? ⟨qb, qo + j, none⟩ = some (.pointer (some ⟨ps j, 0, none⟩)) := by
           have hb0 := World.block_lt_of_cell? W _ (q3 j hkid)
           rw [cell_of_blk (hkp.block qb hb0 (hRd qb ⟨q1, q2⟩))]; exact q3 j hkid
         clear q3
         have hkidB : decide ((j : Int) < (cs.length : Int)) = true := by simp [hkid]
         obtain ⟨fn, tmps, assign, body, hy, hR⟩ := hY _ (.kid j (ps j)) Pv wr hJs hkp (fun _ h => h) (fun k h => Nat.lt_of_lt_of_le (hbnd k h) hkp.size) (by rw [← HM.out]; exact pre_kid hkid hjM)
         dsimp only [Part.enc] at hy
         gi_wp2
         refine (hR _).mono ?_
         rintro e W3 ⟨hk3, (⟨rfl, hJ3⟩ | ⟨rfl, hJx3⟩)⟩
         · have hk3' := hkp.trans hk3
           clear y1 y2 y3 y4 hy hR
           obtain ⟨y1, y2, y3, y4⟩ := box2 ((hk3'.block b hbW (hRd b ⟨hlo, hb⟩)).trans HBOX.out)
           by_cases hkey : j < ks.length
           · have hpre := pre_both (ps := ps) hkid hkey hjM
             have hnext := parts_both (ps := ps) hkid hkey
             rcases K4.out with h | ⟨pb, po, rfl, g1, g2, g3⟩
             · rw [h] at hkey; simp at hkey
             have ck : W3.cell? ⟨pb, po + j, none⟩ = some (.int .i64 (ks.getD j 0)) := by
               have hb0 := World.block_lt_of_cell? W _ (g3 j hkey)
               rw [cell_of_blk ((hk3').block pb hb0 (hRd pb ⟨g1, g2⟩))]; exact g3 j hkey
             have hkeyB : decide ((j : Int) < (ks.length : Int)) = true := by simp [hkey]
             obtain ⟨fn2, tmps2, assign2, body2, hy2, hR2⟩ := hY _ (.key (ks.getD j 0)) Pv W3 hJ3 (hk3') (fun _ h => h) (fun k h => Nat.lt_of_lt_of_le (hbnd k h) (hk3').size) (by rw [← HM.out]; exact hpre)
             dsimp only [Part.enc] at hy2
             have HPRE := Lib.hid hpre
             have HNEXT := Lib.hid hnext
             clear hpre hnext
             obtain ⟨kk, hkk⟩ : ∃ kk, kk = ks.getD j 0 := ⟨_, rfl⟩
             rw [← hkk] at ck hy2
             have HKK := Lib.hid hkk
             clear g3 hkk
             gi_wp2
             refine (hR2 _).mono ?_
             rintro e W4 ⟨hk4, (⟨rfl, hJ4⟩ | ⟨rfl, hJx4⟩)⟩
             · gi_wp2
               go_roundw
               case rel => exact ⟨j + 1, by go_num, by omega, by rw [HNEXT.out]; exact hJ4, (hk3').trans hk4⟩
               case measure => simp [intOf]; omega
             · gi_wp2
               refine bodyPost_ret (results_none rfl _ _ _) rfl ?_
               exact ⟨⟨_, rfl⟩, (hk3').trans hk4, .inr ⟨_, by rw [← HM.out]; exact HPRE.out, hJx4⟩⟩
           · exfalso; omega
         · gi_wp2
           refine bodyPost_ret (results_none rfl _ _ _) rfl ?_
           exact ⟨⟨_, rfl⟩, hkp.trans hk3, .inr ⟨_, by rw [← HM.out]; exact pre_kid hkid hjM, hJx3⟩⟩
       · have hkidB : decide ((j : Int) < (cs.length : Int)) = false := by simp; omega
         by_cases hkey : j < ks.length
         · have hpre := pre_key (ps := ps) hkid hkey hjM
           have hnext := parts_key (ps := ps) hkid hkey
           rcases K4.out with h | ⟨pb, po, rfl, g1, g2, g3⟩
           · rw [h] at hkey; simp at hkey
           have ck : wr.cell? ⟨pb, po + j, none⟩ = some (.int .i64 (ks.getD j 0)) := by
             have hb0 := World.block_lt_of_cell? W _ (g3 j hkey)
             rw [cell_of_blk ((hkp).block pb hb0 (hRd pb ⟨g1, g2⟩))]; exact g3 j hkey
           have hkeyB : decide ((j : Int) < (ks.length : Int)) = true := by simp [hkey]
           obtain ⟨fn2, tmps2, assign2, body2, hy2, hR2⟩ := hY _ (.key (ks.getD j 0)) Pv wr hJs (hkp) (fun _ h => h) (fun k h => Nat.lt_of_lt_of_le (hbnd k h) (hkp).size) (by rw [← HM.out]; exact hpre)
           dsimp only [Part.enc] at hy2
           have HPRE := Lib.hid hpre
           have HNEXT := Lib.hid hnext
           clear hpre hnext
           obtain ⟨kk, hkk⟩ : ∃ kk, kk = ks.getD j 0 := ⟨_, rfl⟩
           rw [← hkk] at ck hy2
           have HKK := Lib.hid hkk
           clear g3 hkk
           gi_wp2
           refine ⟨fun _ h => (by cases h), ?_⟩
           gi_wp2
           refine (hR2 _).mono ?_
           rintro e W4 ⟨hk4, (⟨rfl, hJ4⟩ | ⟨rfl, hJx4⟩)⟩
           · gi_wp2
             go_roundw
             case rel => exact ⟨j + 1, by go_num, by omega, by rw [HNEXT.out]; exact hJ4, (hkp).trans hk4⟩
             case measure => simp [intOf]; omega
           · gi_wp2
             refine bodyPost_ret (results_none rfl _ _ _) rfl ?_
             exact ⟨⟨_, rfl⟩, (hkp).trans hk4, .inr ⟨_, by rw [← HM.out]; exact HPRE.out, hJx4⟩⟩
         · exfalso; have := HM.out; omega
     · obtain rfl : j = M := by omega
       gi_wp2
       go_end0
       exact ⟨⟨_, rfl⟩, hkp, .inl (by rw [← HM.out]; exact hJs)⟩
 · gi_wp2
   gi_quiet (fail)
   gi_wp2
   have e0 : (cs.length : Int) = (M : Int) := by have := HM.out; omega
   rw [e0]
   clear e0
   gi_loopw [17] (fun i wr => ∃ (j : Nat), i = .int .i64 j ∧ j ≤ M ∧ J (partsTo cs.length ps ks j) Pv wr ∧ Keep Pv W wr) (fun i _ => M - (intOf i).toNat)
   case atStart => exact ⟨0, rfl, Nat.zero_le _, hJ _ _ _ _ _ h0 (Keep.drewN _ _ _) (fun k h => .inl h), Keep.drewN _ _ _⟩
   case round =>
     obtain ⟨j, rfl, hj, hJs, hkp⟩ := hrel
     have hM1 : cs.length ≤ M := by have := HM.out; omega
     have hM2 : ks.length ≤ M := by have := HM.out; omega
     by_cases hjM : j < M
     · have hbW := (Array.getElem?_eq_some_iff.1 HBOX.out).1
       obtain ⟨y1, y2, y3, y4⟩ := box2 ((hkp.block b hbW (hRd b ⟨hlo, hb⟩)).trans HBOX.out)
       clear x1 x2 x3 x4
       by_cases hkid : j < cs.length
       · rcases HAT.out with h | ⟨qb, qo, rfl, q1, q2, q3⟩
         · omega
         have cq : wr.cell? ⟨qb, qo + j, none⟩ = some (.pointer (some ⟨ps j, 0, none⟩)) := by
           have hb0 := World.block_lt_of_cell? W _ (q3 j hkid)
           rw [cell_of_blk (hkp.block qb hb0 (hRd qb ⟨q1, q2⟩))]; exact q3 j hkid
         clear q3
         have hkidB : decide ((j : Int) < (cs.length : Int)) = true := by simp [hkid]
         obtain ⟨fn, tmps, assign, body, hy, hR⟩ := hY _ (.kid j (ps j)) Pv wr hJs hkp (fun _ h => h) (fun k h => Nat.lt_of_lt_of_le (hbnd k h) hkp.size) (by rw [← HM.out]; exact pre_kid hkid hjM)
         dsimp only [Part.enc] at hy
         gi_wp2
         refine (hR _).mono ?_
         rintro e W3 ⟨hk3, (⟨rfl, hJ3⟩ | ⟨rfl, hJx3⟩)⟩
         · have hk3' := hkp.trans hk3
           clear y1 y2 y3 y4 hy hR
           obtain ⟨y1, y2, y3, y4⟩ := box2 ((hk3'.block b hbW (hRd b ⟨hlo, hb⟩)).trans HBOX.out)
           by_cases hkey : j < ks.length
           · have hpre := pre_both (ps := ps) hkid hkey hjM
             have hnext := parts_both (ps := ps) hkid hkey
             rcases K4.out with h | ⟨pb, po, rfl, g1, g2, g3⟩
             · rw [h] at hkey; simp at hkey
             have ck : W3.cell? ⟨pb, po + j, none⟩ = some (.int .i64 (ks.getD j 0)) := by
               have hb0 := World.block_lt_of_cell? W _ (g3 j hkey)
               rw [cell_of_blk ((hk3').block pb hb0 (hRd pb ⟨g1, g2⟩))]; exact g3 j hkey
             have hkeyB : decide ((j : Int) < (ks.length : Int)) = true := by simp [hkey]
             obtain ⟨fn2, tmps2, assign2, body2, hy2, hR2⟩ := hY _ (.key (ks.getD j 0)) Pv W3 hJ3 (hk3') (fun _ h => h) (fun k h => Nat.lt_of_lt_of_le (hbnd k h) (hk3').size) (by rw [← HM.out]; exact hpre)
             dsimp only [Part.enc] at hy2
             have HPRE := Lib.hid hpre
             have HNEXT := Lib.hid hnext
             clear hpre hnext
             obtain ⟨kk, hkk⟩ : ∃ kk, kk = ks.getD j 0 := ⟨_, rfl⟩
             rw [← hkk] at ck hy2
             have HKK := Lib.hid hkk
             clear g3 hkk
             gi_wp2
             refine (hR2 _).mono ?_
             rintro e W4 ⟨hk4, (⟨rfl, hJ4⟩ | ⟨rfl, hJx4⟩)⟩
             · gi_wp2
               go_roundw
               case rel => exact ⟨j + 1, by go_num, by omega, by rw [HNEXT.out]; exact hJ4, (hk3').trans hk4⟩
               case measure => simp [intOf]; omega
             · gi_wp2
               refine bodyPost_ret (results_none rfl _ _ _) rfl ?_
               exact ⟨⟨_, rfl⟩, (hk3').trans hk4, .inr ⟨_, by rw [← HM.out]; exact HPRE.out, hJx4⟩⟩
           · have hnext := parts_kid (ps := ps) hkid hkey
             have HNEXT := Lib.hid hnext
             clear hnext
             have hkeyB : decide ((j : Int) < (ks.length : Int)) = false := by simp; omega
             gi_wp2
             refine ⟨fun _ h => (by cases h), ?_⟩
             gi_wp2
             go_roundw
             case rel => exact ⟨j + 1, by go_num, by omega, by rw [HNEXT.out]; exact hJ3, hk3'⟩
             case measure => simp [intOf]; omega
         · gi_wp2
           refine bodyPost_ret (results_none rfl _ _ _) rfl ?_
           exact ⟨⟨_, rfl⟩, hkp.trans hk3, .inr ⟨_, by rw [← HM.out]; exact pre_kid hkid hjM, hJx3⟩⟩
       · have hkidB : decide ((j : Int) < (cs.length : Int)) = false := by simp; omega
         exfalso; have := HM.out; omega
     · obtain rfl : j = M := by omega
       gi_wp2
       go_end0
       exact ⟨⟨_, rfl⟩, hkp, .inl (by rw [← HM.out]; exact hJs)⟩
end Go.Proofs.Ytananonjomfpkaa

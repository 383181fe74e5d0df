/- Maps of pointers to counts. -/
import Derived.Test.YtananonjomfpkaaQg32
import Derived.RangeFuncRecord
/- Deleting: a valid tree stays one, without the key. -/
namespace Go.Proofs.Ytananonjomfpkaa
open Go.RowKit
namespace Tr
def Under (wide least d : Int) : Tr → Prop
 | .mk k c => (least ≤ (k.length : Int) + 1 ∧ (k.length : Int) ≤ wide) ∧ ((c.length = 0 ∧ d = 1) ∨ (c.length ≠ 0 ∧ d ≠ 1 ∧ c.length = k.length + 1 ∧ ∀ x ∈ c, nodesB wide (wide / 2) (d - 1) x = true))
theorem Under.of_nodes {wide least d : Int} {t : Tr} (h : nodesB wide least d t = true) : Under wide least d t := by
 cases t with
 | mk k c =>
   obtain ⟨⟨h1, h2⟩, h3⟩ := nodes_mem h
   exact ⟨⟨by omega, h2⟩, h3.imp id (fun ⟨a, b, c', _, f⟩ => ⟨a, b, c', f⟩)⟩
theorem Under.fits {wide least d : Int} {t : Tr} (h : Under wide least d t) (hl : least ≤ (t.ks.length : Int)) (h0 : t.ks.length ≠ 0 ∨ t.cs.length = 0) : nodesB wide least d t = true := by
 cases t with
 | mk k c =>
   obtain ⟨⟨h1, h2⟩, h3⟩ := h
   refine nodes_of ⟨⟨hl, h2⟩, h3.imp id (fun ⟨a, b, c', f⟩ => ⟨a, b, c', ?_, f⟩)⟩
   rcases h0 with h0 | h0
   · exact h0
   · exact absurd h0 a
theorem Under.pair {wide l1 l2 e : Int} {x y : Tr} (hx : Under wide l1 e x) (hy : Under wide l2 e y) : Pair x y := by
 cases x with
 | mk kx cx =>
 cases y with
 | mk ky cy =>
   rcases hx.2 with ⟨a1, a2⟩ | ⟨a1, a2, a3, _⟩
   · rcases hy.2 with ⟨b1, b2⟩ | ⟨b1, b2, b3, _⟩
     · exact .inl ⟨a1, b1⟩
     · exact absurd a2 b2
   · rcases hy.2 with ⟨b1, b2⟩ | ⟨b1, b2, b3, _⟩
     · exact absurd b2 a2
     · exact .inr ⟨a3, b3⟩
theorem joined_fit {wide e : Int} (hw : 2 ≤ wide) {x y : Tr} (m : Int) (hx : Under wide (wide / 2) e x) (hy : Under wide (wide / 2) e y) (h1 : wide / 2 ≤ (x.ks.length : Int) + 1 + (y.ks.length : Int)) (h2 : (x.ks.length : Int) + 1 + (y.ks.length : Int) ≤ wide) :
   nodesB wide (wide / 2) e (.mk (x.ks ++ m :: y.ks) (x.cs ++ y.cs)) = true := by
 cases x with
 | mk kx cx =>
 cases y with
 | mk ky cy =>
   simp only [ks, cs] at h1 h2 ⊢
   refine nodes_of ⟨⟨by simp; omega, by simp; omega⟩, ?_⟩
   rcases hx.2 with ⟨a1, a2⟩ | ⟨a1, a2, a3, a4⟩
   · rcases hy.2 with ⟨b1, b2⟩ | ⟨b1, b2, b3, _⟩
     · exact .inl ⟨by rw [List.length_append]; omega, a2⟩
     · exact absurd a2 b2
   · rcases hy.2 with ⟨b1, b2⟩ | ⟨b1, b2, b3, b4⟩
     · exact absurd b2 a2
     · refine .inr ⟨by rw [List.length_append]; omega, a2, by simp; omega, by simp, fun z hz => ?_⟩
       rcases List.mem_append.1 hz with hz | hz
       · exact a4 z hz
       · exact b4 z hz
theorem ahead_fit {wide e : Int} (hw : 2 ≤ wide) {x y : Tr} (m : Int) (hx : Under wide (wide / 2) e x) (hy : Under wide (wide / 2) e y) (hl : wide / 2 < (x.ks.length : Int)) (hs : (y.ks.length : Int) < wide / 2) :
   nodesB wide (wide / 2) e (.mk (x.ks.take (x.ks.length - 1)) (x.cs.take x.ks.length)) = true ∧ nodesB wide (wide / 2) e (.mk (m :: y.ks) (oneFirst x.cs y.cs x.ks.length)) = true := by
 cases x with
 | mk kx cx =>
 cases y with
 | mk ky cy =>
   simp only [ks, cs] at hl hs ⊢
   obtain ⟨⟨x1, x2⟩, x3⟩ := hx
   obtain ⟨⟨y1, y2⟩, y3⟩ := hy
   rcases x3 with ⟨a1, a2⟩ | ⟨a1, a2, a3, a4⟩
   · rcases y3 with ⟨b1, b2⟩ | ⟨b1, b2, b3, _⟩
     · exact ⟨nodes_of ⟨⟨by simp; omega, by simp; omega⟩, .inl ⟨by simp [a1], a2⟩⟩, nodes_of ⟨⟨by simp; omega, by simp; omega⟩, .inl ⟨by rw [oneFirst, if_pos a1]; exact b1, a2⟩⟩⟩
     · exact absurd a2 b2
   · rcases y3 with ⟨b1, b2⟩ | ⟨b1, b2, b3, b4⟩
     · exact absurd b2 a2
     · refine ⟨nodes_of ⟨⟨by simp; omega, by simp; omega⟩, .inr ⟨by rw [List.length_take]; omega, a2, by rw [List.length_take, List.length_take]; omega, by rw [List.length_take]; omega, fun z hz => a4 z (List.mem_of_mem_take hz)⟩⟩,
         nodes_of ⟨⟨by simp; omega, by simp; omega⟩, .inr ⟨by rw [oneFirst, if_neg a1]; simp, a2, by rw [oneFirst, if_neg a1]; simp; omega, by simp, fun z hz => ?_⟩⟩⟩
       rw [oneFirst, if_neg a1] at hz
       rcases List.mem_cons.1 hz with rfl | hz
       · rw [kidAt_get (by omega)]; exact a4 _ (List.getElem_mem _)
       · exact b4 z hz
theorem behind_fit {wide e : Int} (hw : 2 ≤ wide) {x y : Tr} (m : Int) (hx : Under wide (wide / 2) e x) (hy : Under wide (wide / 2) e y) (hl : wide / 2 < (y.ks.length : Int)) (hs : (x.ks.length : Int) < wide / 2) :
   nodesB wide (wide / 2) e (.mk (x.ks ++ [m]) (oneMore x.cs y.cs)) = true ∧ nodesB wide (wide / 2) e (.mk (y.ks.drop 1) (y.cs.drop 1)) = true := by
 cases x with
 | mk kx cx =>
 cases y with
 | mk ky cy =>
   simp only [ks, cs] at hl hs ⊢
   obtain ⟨⟨x1, x2⟩, x3⟩ := hx
   obtain ⟨⟨y1, y2⟩, y3⟩ := hy
   rcases x3 with ⟨a1, a2⟩ | ⟨a1, a2, a3, a4⟩
   · rcases y3 with ⟨b1, b2⟩ | ⟨b1, b2, b3, _⟩
     · exact ⟨nodes_of ⟨⟨by simp; omega, by simp; omega⟩, .inl ⟨by rw [oneMore, if_pos b1]; exact a1, a2⟩⟩, nodes_of ⟨⟨by simp; omega, by simp; omega⟩, .inl ⟨by simp [b1], a2⟩⟩⟩
     · exact absurd a2 b2
   · rcases y3 with ⟨b1, b2⟩ | ⟨b1, b2, b3, b4⟩
     · exact absurd b2 a2
     · refine ⟨nodes_of ⟨⟨by simp; omega, by simp; omega⟩, .inr ⟨by rw [oneMore, if_neg b1]; simp, a2, by rw [oneMore, if_neg b1]; simp; omega, by simp, fun z hz => ?_⟩⟩,
         nodes_of ⟨⟨by simp; omega, by simp; omega⟩, .inr ⟨by rw [List.length_drop]; omega, a2, by rw [List.length_drop, List.length_drop]; omega, by rw [List.length_drop]; omega, fun z hz => b4 z (List.mem_of_mem_drop hz)⟩⟩⟩
       rw [oneMore, if_neg b1] at hz
       rcases List.mem_append.1 hz with hz | hz
       · exact a4 z hz
       · simp at hz; subst hz
         rw [kidAt_get (by omega)]; exact b4 _ (List.getElem_mem _)
theorem repair_under {wide least d : Int} (hw : 2 ≤ wide) {k : List Int} {c : List Tr} {i b j : Nat} (hl : least ≤ (k.length : Int) ∧ (k.length : Int) ≤ wide) (hd : d ≠ 1) (hc : c.length = k.length + 1) (hk : 1 ≤ k.length) (hi : i < c.length)
   (hu : Under wide (wide / 2) (d - 1) (kidAt c i)) (hall : ∀ m, m < c.length → m ≠ i → nodesB wide (wide / 2) (d - 1) (kidAt c m) = true) : Under wide least d (repair (wide / 2) k c i b j).t := by
 have hmem : ∀ z, z ∈ c → ∃ m, m < c.length ∧ z = kidAt c m := fun z hz => by
   obtain ⟨m, hm, rfl⟩ := List.getElem_of_mem hz
   exact ⟨m, hm, (kidAt_get hm).symm⟩
 have hun : ∀ m, m < c.length → Under wide (wide / 2) (d - 1) (kidAt c m) := fun m hm => by
   by_cases e : m = i
   · rw [e]; exact hu
   · exact Under.of_nodes (hall m hm e)
 by_cases hle : wide / 2 ≤ ((kidAt c i).ks.length : Int)
 · rw [repair_none (by omega)]
   refine ⟨⟨by omega, hl.2⟩, .inr ⟨by omega, hd, hc, fun z hz => ?_⟩⟩
   obtain ⟨m, hm, rfl⟩ := hmem z hz
   by_cases e : m = i
   · rw [e]; exact hu.fits hle (.inl (by omega))
   · exact hall m hm e
 · rw [repair_eq (by omega)]
   dsimp only
   -- two kids side by side: what has become of them, and the others
   have two : ∀ q, q + 1 < c.length → (q = i ∨ q + 1 = i) → ∀ (k2 : List Int) (x' y' : Tr), k2.length = k.length → nodesB wide (wide / 2) (d - 1) x' = true → nodesB wide (wide / 2) (d - 1) y' = true → Under wide least d (.mk k2 (setTwo c q x' y')) := fun q hq hqi k2 x' y' hk2 hx hy => by
     refine ⟨⟨by rw [hk2]; omega, by rw [hk2]; exact hl.2⟩, .inr ⟨by rw [setTwo_length hq]; omega, hd, by rw [setTwo_length hq, hk2]; exact hc, fun z hz => ?_⟩⟩
     unfold setTwo at hz
     simp only [List.mem_append, List.mem_cons] at hz
     rcases hz with hz | rfl | rfl | hz
     · obtain ⟨m, hm, rfl⟩ := List.getElem_of_mem hz
       rw [List.length_take] at hm
       rw [List.getElem_take, ← kidAt_get (by omega)]
       exact hall m (by omega) (by omega)
     · exact hx
     · exact hy
     · obtain ⟨m, hm, rfl⟩ := List.getElem_of_mem hz
       rw [List.length_drop] at hm
       rw [List.getElem_drop, ← kidAt_get (by omega)]
       exact hall (q + 2 + m) (by omega) (by omega)
   have one : ∀ q, q + 1 < c.length → (q = i ∨ q + 1 = i) → ∀ (k2 : List Int) (x' : Tr), k2.length + 1 = k.length → nodesB wide (wide / 2) (d - 1) x' = true → Under wide least d (.mk k2 (setOne c q x')) := fun q hq hqi k2 x' hk2 hx => by
     have hlen := setOne_length (c := c) (i := q) (x := x') hq
     refine ⟨⟨by omega, by omega⟩, .inr ⟨by omega, hd, by omega, fun z hz => ?_⟩⟩
     unfold setOne at hz
     simp only [List.mem_append, List.mem_cons] at hz
     rcases hz with hz | rfl | hz
     · obtain ⟨m, hm, rfl⟩ := List.getElem_of_mem hz
       rw [List.length_take] at hm
       rw [List.getElem_take, ← kidAt_get (by omega)]
       exact hall m (by omega) (by omega)
     · exact hx
     · obtain ⟨m, hm, rfl⟩ := List.getElem_of_mem hz
       rw [List.length_drop] at hm
       rw [List.getElem_drop, ← kidAt_get (by omega)]
       exact hall (q + 2 + m) (by omega) (by omega)
   have hlow : ∀ m, m < c.length → wide / 2 ≤ ((kidAt c m).ks.length : Int) + 1 := fun m hm => by
     have h := hun m hm
     generalize kidAt c m = u at h
     obtain ⟨a, b⟩ := u
     exact h.1.1
   have hge : ∀ m, m < c.length → m ≠ i → wide / 2 ≤ ((kidAt c m).ks.length : Int) := fun m hm e => by
     have h := hall m hm e
     generalize kidAt c m = u at h
     obtain ⟨a, b⟩ := u
     exact (nodes_mem h).1.1
   have hli := hlow i hi
   unfold mend mended
   by_cases h1 : 0 < i ∧ wide / 2 < ((kidAt c (i - 1)).ks.length : Int)
   · rw [if_pos h1, if_pos rfl]
     have hq : i - 1 + 1 = i := by omega
     have hf := ahead_fit hw (k.getD (i - 1) 0) (hun (i - 1) (by omega)) hu h1.2 (by omega)
     unfold ahead
     rw [hq]
     have h0 : (kidAt c (i - 1)).ks.length - 1 + 1 = (kidAt c (i - 1)).ks.length := by omega
     simp only [h0]
     exact two (i - 1) (by omega) (.inr hq) _ _ _ (by simp) hf.1 hf.2
   · rw [if_neg h1]
     by_cases h2 : i + 1 < c.length ∧ wide / 2 < ((kidAt c (i + 1)).ks.length : Int)
     · rw [if_pos h2, if_neg (by omega), if_pos rfl]
       have hf := behind_fit hw (k.getD i 0) hu (hun (i + 1) h2.1) h2.2 (by omega)
       unfold behind
       exact two i h2.1 (.inl rfl) _ _ _ (by simp) hf.1 hf.2
     · rw [if_neg h2]
       by_cases h3 : 0 < i
       · rw [if_pos h3, if_neg (by omega), if_neg (by omega), if_pos rfl]
         have hq : i - 1 + 1 = i := by omega
         have hg := hge (i - 1) (by omega) (by omega)
         have hf := joined_fit hw (k.getD (i - 1) 0) (hun (i - 1) (by omega)) hu (by omega) (by omega)
         unfold joined
         rw [hq]
         exact one (i - 1) (by omega) (.inr hq) _ _ (takeAt_length (by omega)) hf
       · have h4 : i + 1 < c.length := by omega
         rw [if_neg h3, if_neg (by omega), if_neg (by omega), if_neg (by omega)]
         have hg := hge (i + 1) h4 (by omega)
         have hf := joined_fit hw (k.getD i 0) hu (hun (i + 1) h4) (by omega) (by omega)
         unfold joined
         exact one i h4 (.inl rfl) _ _ (takeAt_length (by omega)) hf
theorem del_facts {wide : Int} (hw : 2 ≤ wide) : ∀ (n : Nat) (key : Int) (least d : Int) (t : Tr), t.weight < n → nodesB wide least d t = true → Lacks key t →
   Under wide least d (del (wide / 2) n key t).t ∧ ∃ A B, t.keys = A ++ key :: B ∧ (del (wide / 2) n key t).t.keys = A ++ B := by
 intro n
 induction n with
 | zero => intro key least d t h; omega
 | succ n ih =>
   rintro key least d ⟨k, c⟩ hn hnode hl
   obtain ⟨hsz, hsh⟩ := nodes_mem hnode
   by_cases h0 : c.length = 0
   · have hp := hl.leaf h0
     obtain rfl : c = [] := List.length_eq_zero_iff.1 h0
     rw [del_leaf h0]
     obtain ⟨KA, KB, hk, hkl⟩ := split_key hp
     have hown : k.getD (place key k) 0 = key := by
       by_cases ho : place key k < k.length ∧ k.getD (place key k) 0 = key
       · exact ho.2
       · have := hl.2.2
         rw [path_leaf ho h0] at this; cases this
     rw [hown] at hk
     have hlen := takeAt_length hp
     refine ⟨⟨⟨by omega, by omega⟩, .inl ⟨rfl, ?_⟩⟩, KA, KB, ?_, ?_⟩
     · rcases hsh with h | h
       · exact h.2
       · exact absurd h0 h.1
     · rw [keys_weave, weave_nil]; exact hk
     · rw [keys_weave, weave_nil]
       conv => lhs; rw [← hkl, hk]
       exact takeAt_split KA KB key
   · obtain ⟨hc, hk1, hi, hlx⟩ := hl.kid h0
     rcases hsh with ⟨h, _⟩ | ⟨_, hd, _, _, hkids⟩
     · exact absurd h h0
     obtain ⟨i, hie⟩ : ∃ i, i = place key k := ⟨_, rfl⟩
     rw [← hie] at hi hlx
     have hki := kidAt_get hi
     have hwk := weight_get_le c i hi
     simp only [weight] at hn
     have hnk : nodesB wide (wide / 2) (d - 1) (kidAt c i) = true := by rw [hki]; exact hkids _ (List.getElem_mem hi)
     have hwt : (kidAt c i).weight < n := by rw [hki]; omega
     have hoth : ∀ u m, m < (setKid c i u).length → m ≠ i → nodesB wide (wide / 2) (d - 1) (kidAt (setKid c i u) m) = true := fun u m hm e => by
       rw [setKid_eq hi, List.length_set] at hm
       rw [kidAt_set hi, if_neg e, kidAt_get hm]
       exact hkids _ (List.getElem_mem hm)
     have hlen : ∀ u, (setKid c i u).length = c.length := fun u => by rw [setKid_eq hi, List.length_set]
     have hpair : ∀ u, Under wide (wide / 2) (d - 1) u → ∀ q, q + 1 < (setKid c i u).length → Pair (kidAt (setKid c i u) q) (kidAt (setKid c i u) (q + 1)) := fun u hu q hq => by
       have hun : ∀ m, m < (setKid c i u).length → Under wide (wide / 2) (d - 1) (kidAt (setKid c i u) m) := fun m hm => by
         by_cases e : m = i
         · rw [kidAt_set hi, if_pos e]; exact hu
         · exact Under.of_nodes (hoth u m hm e)
       exact (hun q (by omega)).pair (hun (q + 1) hq)
     have hkeys := keys_around (k := k) (c := c) hi hc
     rw [← hki] at hkeys
     have hhalf : (0 : Int) ≤ wide / 2 := by omega
     by_cases ho : ownKey key k
     · rw [if_pos ho] at hlx
       obtain ⟨hu, A, B, hA, hB⟩ := ih _ (wide / 2) (d - 1) (kidAt c i) hwt hnk hlx
       obtain ⟨⟨A2, hA2⟩, -⟩ := greatest_facts _ _ (Nat.le_refl _) hlx.1 hlx.2.1
       rw [del_hit h0 ho, ← hie]
       obtain ⟨g, hg⟩ : ∃ g, g = (kidAt c i).greatest := ⟨_, rfl⟩
       rw [← hg] at hA hA2 hu hB ⊢
       have hBn : B = [] := by
         have hs := hlx.1.2
         rw [hA] at hs
         have h2 := (List.pairwise_append.1 hs).2.1
         have h3 := (List.pairwise_cons.1 h2).1
         cases hBe : B with
         | nil => rfl
         | cons b r =>
           exfalso
           have hl1 : (A ++ g :: B).getLast (by simp) = (A2 ++ [g]).getLast (by simp) := by congr 1; rw [← hA, hA2]
           rw [List.getLast_append_of_ne_nil (by simp) (by simp), List.getLast_append_of_ne_nil (by simp) (by simp)] at hl1
           have hm : g ∈ B := by
             have hne : B ≠ [] := by rw [hBe]; simp
             rw [List.getLast_cons hne] at hl1
             rw [List.getLast_singleton] at hl1
             rw [← hl1]; exact List.getLast_mem hne
           have := h3 g hm
           omega
       subst hBn
       rw [List.append_nil] at hB
       have hik : i < k.length := by rw [hie]; exact ho.1
       have hkey : k.getD i 0 = key := by rw [hie]; exact ho.2
       obtain ⟨KA, KB, hk, hkl⟩ := split_key hik
       rw [hkey] at hk
       have hset : k.set i g = KA ++ g :: KB := by conv => lhs; rw [hk, ← hkl]
                                                   exact set_split KA KB key g
       refine ⟨repair_under hw (by rw [List.length_set]; exact hsz) hd (by rw [hlen, List.length_set]; exact hc) (by rw [List.length_set]; exact hk1) (by rw [hlen]; exact hi) (by rw [kidAt_set hi, if_pos rfl]; exact hu) (hoth _), weave (c.take i) (k.take i) ++ (A ++ [g]), weave (c.drop (i + 1)) KB, ?_, ?_⟩
       · rw [hkeys, hA]
         have hdk : k.drop i = key :: KB := by conv => lhs; rw [hk, ← hkl]
                                               exact List.drop_left' rfl
         rw [hdk]
         simp [tailW]
       · rw [repair_keys hhalf (by rw [hlen, List.length_set]; exact hc) (by rw [List.length_set]; exact hk1) (by rw [hlen]; exact hi) (hpair _ hu), keys_setKid _ hi (by rw [List.length_set]; exact hc), hB]
         have hdk : (k.set i g).drop i = g :: KB := by rw [hset, ← hkl]; exact List.drop_left' rfl
         have htk : (k.set i g).take i = k.take i := by
           rw [hset]; conv => rhs; rw [hk]
           rw [List.take_left' hkl, List.take_left' hkl]
         rw [hdk, htk]
         simp [tailW]
     · rw [if_neg ho] at hlx
       obtain ⟨hu, A, B, hA, hB⟩ := ih _ (wide / 2) (d - 1) (kidAt c i) hwt hnk hlx
       rw [del_miss h0 ho, ← hie]
       refine ⟨repair_under hw hsz hd (by rw [hlen]; exact hc) hk1 (by rw [hlen]; exact hi) (by rw [kidAt_set hi, if_pos rfl]; exact hu) (hoth _), weave (c.take i) (k.take i) ++ A, B ++ tailW (c.drop (i + 1)) (k.drop i), ?_, ?_⟩
       · rw [hkeys, hA]; simp
       · rw [repair_keys hhalf (by rw [hlen]; exact hc) hk1 (by rw [hlen]; exact hi) (hpair _ hu), keys_setKid _ hi hc, hB]; simp
theorem delT_facts {wide key : Int} {t : Tr} (h : lacksB wide key t = true) : validB wide (delT wide key t) = true ∧ (∃ A B, t.keys = A ++ key :: B ∧ (delT wide key t).keys = A ++ B) ∧
   ((delT wide key t).depth : Int) = (t.depth : Int) - (if delShrinks wide key t then 1 else 0) := by
 unfold lacksB at h
 obtain ⟨hv, hp⟩ := Bool.and_eq_true_iff.1 h
 have hwide := valid_wide hv
 have hl := Lacks.of_tops (valid_well hv) (Tops.of_valid hv hwide.1) hp
 have hv0 := hv
 unfold validB at hv
 obtain ⟨hv1, hv2⟩ := Bool.and_eq_true_iff.1 hv
 obtain ⟨hv3, hv4⟩ := Bool.and_eq_true_iff.1 hv2
 obtain ⟨hu, A, B, hA, hB⟩ := del_facts hwide.1 (t.weight + 1) key 0 t.depth t (by omega) hv3 hl
 obtain ⟨D, hD⟩ : ∃ D, D = del (wide / 2) (t.weight + 1) key t := ⟨_, rfl⟩
 have hdt : delT wide key t = if D.t.ks.length = 0 ∧ D.t.cs.length ≠ 0 then kidAt D.t.cs 0 else D.t := by rw [hD]; rfl
 have hds : delShrinks wide key t = decide (D.t.ks.length = 0 ∧ D.t.cs.length ≠ 0) := by rw [hD]; rfl
 rw [← hD] at hu hB
 have hsorted : sortedB (A ++ B) = true := by
   have hs := (valid_well hv0).2
   have hm := sorted_mem hv4
   rw [hA] at hs hm
   have hs2 : (A ++ B).Pairwise (· < ·) := hs.sublist (List.Sublist.append (List.Sublist.refl A) (List.sublist_cons_self key B))
   refine sortedB_of (fun q hq => ?_)
   unfold okAt
   have hmq := hm ((A ++ B).getD q 0) (by
     rw [List.getD_eq_getElem?_getD, List.getElem?_eq_getElem hq, Option.getD_some]
     have := List.getElem_mem hq
     simp only [List.mem_append, List.mem_cons] at this ⊢
     rcases this with h | h
     · exact .inl h
     · exact .inr (.inr h))
   rw [inB_true hmq.1 hmq.2, Bool.true_and]
   by_cases h0 : q = 0
   · simp [h0]
   · have := List.pairwise_iff_getElem.1 hs2 (q - 1) q (by omega) hq (by omega)
     rw [Bool.or_eq_true]; right
     rw [decide_eq_true_eq, List.getD_eq_getElem?_getD, List.getD_eq_getElem?_getD, List.getElem?_eq_getElem hq, List.getElem?_eq_getElem (by omega), Option.getD_some, Option.getD_some]
     exact this
 by_cases hroot : D.t.ks.length = 0 ∧ D.t.cs.length ≠ 0
 · rw [hdt, hds, if_pos hroot, decide_eq_true hroot]
   obtain ⟨⟨dk, dc⟩, db, dj⟩ := D
   simp only [ks, cs] at hroot hB hu ⊢
   obtain ⟨⟨u1, u2⟩, u3⟩ := hu
   rcases u3 with ⟨u3, _⟩ | ⟨u3, u4, u5, u6⟩
   · exact absurd u3 hroot.2
   have hdk : dk = [] := List.length_eq_zero_iff.1 hroot.1
   subst hdk
   obtain ⟨z, rfl⟩ : ∃ z, dc = [z] := List.length_eq_one_iff.1 (by simpa using u5)
   have hz := u6 z (by simp)
   have hk0 : kidAt [z] 0 = z := rfl
   rw [hk0]
   have hzk : z.keys = A ++ B := by rw [← hB, keys_weave, weave_one]
   have hz0 : nodesB wide 0 ((t.depth : Int) - 1) z = true := by
     obtain ⟨a, b⟩ := z
     obtain ⟨⟨z1, z2⟩, z3⟩ := nodes_mem hz
     exact nodes_of ⟨⟨by omega, z2⟩, z3⟩
   have hdep := nodes_depth wide z.weight 0 _ z (Nat.le_refl _) hz0
   refine ⟨?_, ⟨A, B, hA, hzk⟩, ?_⟩
   · unfold validB
     rw [hv1, hdep, hz0, hzk, hsorted]; rfl
   · rw [hdep]; simp
 · rw [hdt, hds, if_neg hroot, decide_eq_false hroot]
   have hN : nodesB wide 0 t.depth D.t = true := hu.fits (by omega) (by
     by_cases h0 : D.t.ks.length = 0
     · right
       by_cases h1 : D.t.cs.length = 0
       · exact h1
       · exact absurd ⟨h0, h1⟩ hroot
     · exact .inl h0)
   have hdep := nodes_depth wide D.t.weight 0 _ D.t (Nat.le_refl _) hN
   refine ⟨?_, ⟨A, B, hA, hB⟩, ?_⟩
   · unfold validB
     rw [hv1, hdep, hN, hB, hsorted]; rfl
   · rw [hdep]; simp
end Tr
end Go.Proofs.Ytananonjomfpkaa
/- A list of keys deleted one behind the other: plain data. -/
namespace Go.Proofs.Ytananonjomfpkaa
open Go.RowKit
namespace Tr
structure Gone where
 t : Tr
 b : Nat
 j : Nat
 sh : Bool
def takeKey (wide : Int) (s : Gone) (k : Int) : Gone :=
 if (s.t.path k).2 then ⟨delT wide k s.t, s.b + (del (wide / 2) (s.t.weight + 1) k s.t).b, s.j + (del (wide / 2) (s.t.weight + 1) k s.t).j, s.sh || delShrinks wide k s.t⟩ else s
def gone (wide : Int) (t : Tr) (ks : List Int) : Gone := ks.foldl (takeKey wide) ⟨t, 0, 0, false⟩
theorem gone_snoc (wide : Int) (t : Tr) {ks : List Int} {j : Nat} (h : j < ks.length) : gone wide t (ks.take (j + 1)) = takeKey wide (gone wide t (ks.take j)) (ks.getD j 0) := by
 have e : ks.take (j + 1) = ks.take j ++ [ks.getD j 0] := by
   rw [List.take_add_one, List.getElem?_eq_getElem h, List.getD_eq_getElem?_getD, List.getElem?_eq_getElem h]
   rfl
 rw [e]
 unfold gone
 rw [List.foldl_append]
 rfl
theorem takeKey_valid {wide k : Int} {s : Gone} (h : validB wide s.t = true) : validB wide (takeKey wide s k).t = true ∧ (takeKey wide s k).b ≤ s.b + 1000 ∧ (takeKey wide s k).j ≤ s.j + 1000 := by
 unfold takeKey
 by_cases hp : (s.t.path k).2 = true
 · rw [if_pos hp]
   have hl : lacksB wide k s.t = true := by unfold lacksB; rw [h, hp]; rfl
   have hc := del_count (half := wide / 2) (s.t.weight + 1) k s.t
   have hs := valid_small h
   exact ⟨(delT_facts hl).1, by show s.b + _ ≤ _; omega, by show s.j + _ ≤ _; omega⟩
 · rw [if_neg hp]; exact ⟨h, by omega, by omega⟩
theorem gone_valid {wide : Int} {t : Tr} (h : validB wide t = true) (ks : List Int) : ∀ j, j ≤ ks.length → validB wide (gone wide t (ks.take j)).t = true ∧ (gone wide t (ks.take j)).b ≤ 1000 * j ∧ (gone wide t (ks.take j)).j ≤ 1000 * j := by
 intro j
 induction j with
 | zero => intro _; exact ⟨h, Nat.le_refl _, Nat.le_refl _⟩
 | succ j ih =>
   intro hj
   obtain ⟨h1, h2, h3⟩ := ih (by omega)
   obtain ⟨h4, h5, h6⟩ := takeKey_valid (k := ks.getD j 0) h1
   rw [gone_snoc wide t (by omega)]
   exact ⟨h4, by omega, by omega⟩
def askAll (wide : Int) (t : Tr) (ks : List Int) : Bool := validB wide t && keysOk ks
def goneT (wide : Int) (t : Tr) (ks : List Int) : Tr := if askAll wide t ks = true then (gone wide t ks).t else .mk [] []
end Tr
theorem keysOk_few {ks : List Int} (h : keysOk ks = true) : ks.length ≤ 200 := by
 unfold keysOk at h
 rw [Bool.and_eq_true] at h
 exact of_decide_eq_true h.2
theorem Tr.goneT_weight (wide : Int) (t : Tr) (ks : List Int) : (Tr.goneT wide t ks).weight ≤ 1048576 := by
 unfold goneT
 split
 · rename_i h
   simp only [askAll, Bool.and_eq_true] at h
   have h1 := (gone_valid h.1 ks ks.length (Nat.le_refl _)).1
   rw [List.take_length] at h1
   have := valid_small h1
   omega
 · simp [weight, weights]
end Go.Proofs.Ytananonjomfpkaa
/- The program's shrunkByAll. -/
namespace Go.Proofs.Ytananonjomfpkaa
open Go.RowKit
def ShrunkAll (w : World) (wide : Int) (t : Tr) (ks : List Int) (e : Ending) (w' : World) : Prop :=
 (Tr.askAll wide t ks = false ∧ e = .returned (.tuple #[.pointer none, .bool false]) ∧ Below w.heap.size w w') ∨
 (Tr.askAll wide t ks = true ∧ ∃ (gb b : Nat) (F : Cells), e = .returned (.tuple #[.pointer (some ⟨gb, 0, none⟩), .bool true]) ∧
   Shrink w' gb wide (Tr.gone wide t ks).b (Tr.gone wide t ks).j (Tr.gone wide t ks).sh F b (Tr.gone wide t ks).t ∧
   (∀ x o, F x o → w.heap.size ≤ x) ∧ w.heap.size ≤ gb ∧ Below w.heap.size w w')
set_option maxRecDepth 100000 in
set_option maxHeartbeats 4000000 in
theorem shrunkByAll_c {w : World} {B : Nat} {kv cv v : Value} {t : Tr} {ks : List Int} (ht : TreeIn w B kv cv t) (hw : t.weight ≤ 1048576) (hk : IntsIn w B v ks) (wide : Int) (hn1 : -9223372036854775808 ≤ wide) (hn2 : wide ≤ 9223372036854775807) (w' : World) (hbw : Below B w w') (hB : B ≤ w'.heap.size) (hwB : w.heap.size ≤ B) :
   Calls Try.prog 84 #[.agg #[kv, cv], .int .i64 wide, v] w' (ShrunkAll w' wide t ks) := by
 obtain ⟨a5, n5, m5, a6, n6, m6, rfl, rfl⟩ := ht.slices
 obtain ⟨W1, hW1⟩ : ∃ W1, W1 = w'.alloc (.cells #[.slice a5 n5 m5, .slice a6 n6 m6] 26) := ⟨_, rfl⟩
 have hs1 : W1.heap.size = w'.heap.size + 1 := by rw [hW1]; simp
 have hb1 : Below w'.heap.size w' W1 := by rw [hW1]; exact (Below.refl _ _).alloc (Nat.le_refl _) _
 have k0 : W1.heap[w'.heap.size]? = some (.cells #[.slice a5 n5 m5, .slice a6 n6 m6] 26 (0, 0)) := by rw [hW1, new_blk]
 obtain ⟨x1, x2, x3, x4⟩ := box2 k0
 have hk' := hk
 obtain ⟨ka, kc, rfl, hk1, hk2, hk3, hk4⟩ := hk'
 unfold maxLen at hk2
 have HKI : Hid (∀ wx : World, Below w'.heap.size w' wx → IntsIn wx B (.slice ka ks.length kc) ks) := Lib.hid (fun wx hx => hk.later (hbw.trans (hx.mono hB)) (by omega))
 have HT := Lib.hid ht
 have HBW := Lib.hid hbw
 have HW1 := Lib.hid hW1
 have H1 := Lib.hid (And.intro hb1 k0)
 clear ht hbw hW1 hb1 k0 hk hk4
 go_enter Try.func84, Try.ntmps84
 go_wp2_with fail
 rw [← HW1.out]
 refine (impl_valid _ _ _ _ _ wide HT.out hw hn1 hn2 W1 (HBW.out.trans (H1.out.1.mono hB)) (by omega)).mono ?_
 rintro e w2 ⟨rfl, hb2⟩
 have hs2 := hb2.size
 clear x1 x2 x3 x4
 have j0 := (hb2.block _ (by omega)).trans H1.out.2
 obtain ⟨x1, x2, x3, x4⟩ := box2 j0
 have hb2' := H1.out.1.trans (hb2.mono (by omega))
 have H2 := Lib.hid (And.intro hb2' j0)
 have HB2 := Lib.hid (HBW.out.trans (hb2'.mono hB))
 clear hb2 hb2' j0
 cases hv : Tr.validB wide t with
 | false =>
   have HA := Lib.hid (show Tr.askAll wide t ks = false by simp [Tr.askAll, hv])
   clear hv
   go_wp2_with fail
   refine bodyPost_ret (v := .tuple #[.pointer none, .bool false]) (by simp [results, Try.results84, go_sem]) rfl (.inl ⟨HA.out, rfl, H2.out.1⟩)
 | true =>
 have hsmall := Tr.valid_small hv
 have HV := Lib.hid hv
 clear hv
 go_wp2_with fail
 refine (areKeys_c w2 B (HKI.out w2 H2.out.1)).mono ?_
 rintro e w3 ⟨rfl, rfl⟩
 cases hko : keysOk ks with
 | false =>
   have HA := Lib.hid (show Tr.askAll wide t ks = false by simp [Tr.askAll, hko])
   clear hko
   go_wp2_with fail
   refine bodyPost_ret (v := .tuple #[.pointer none, .bool false]) (by simp [results, Try.results84, go_sem]) rfl (.inl ⟨HA.out, rfl, H2.out.1⟩)
 | true =>
 have hfew := keysOk_few hko
 have HA := Lib.hid (show Tr.askAll wide t ks = true by simp [Tr.askAll, hko, HV.out])
 clear hko
 go_wp2_with fail
 refine (plant_nd HT.out hw w3 HB2.out (by omega)).mono ?_
 rintro e w5 ⟨b, rfl, hnd, hb5⟩
 have hs5 := hb5.size
 obtain ⟨W6, hW6⟩ : ∃ W6, W6 = w5.alloc (.cells #[.pointer (some ⟨b, 0, none⟩), .int .i64 0, .int .i64 0, .bool false, .int .i64 wide] 72) := ⟨_, rfl⟩
 have hs6 : W6.heap.size = w5.heap.size + 1 := by rw [hW6]; simp
 have hb6 : Below w5.heap.size w5 W6 := by rw [hW6]; exact (Below.refl _ _).alloc (Nat.le_refl _) _
 have hk6 : KeptF (fun _ _ => False) w5 W6 := KeptF.of_below hb6 (Nat.le_refl _)
 have hg6 : SBox W6 w5.heap.size (.pointer (some ⟨b, 0, none⟩)) 0 0 (.bool false) wide := by unfold SBox; rw [hW6, new_blk]; rfl
 have hsh : Shrink W6 w5.heap.size wide 0 0 false (span w3.heap.size w5.heap.size) b t := ⟨hg6, hnd.keep hk6 (fun _ _ _ h => h), fun o h => by have := h.2; omega⟩
 have HS := Lib.hid hsh
 have HW6 := Lib.hid hW6
 have H6 := Lib.hid (H2.out.1.trans ((hb5.mono (by omega)).trans (hb6.mono (by omega))))
 have hz2 := H2.out.1.size
 clear hsh hg6 hk6 hb6 hW6 hnd hb5 x1 x2 x3 x4
 go_upto_region 4 with (fail)
 rw [← HW6.out]
 go_wp2_with fail
 go_loopw [27] (fun s27 wr => ∃ (j b' : Nat) (F : Cells), j ≤ ks.length ∧ s27 = .int .i64 j ∧ Shrink wr w5.heap.size wide (Tr.gone wide t (ks.take j)).b (Tr.gone wide t (ks.take j)).j (Tr.gone wide t (ks.take j)).sh F b' (Tr.gone wide t (ks.take j)).t ∧ (∀ x o, F x o → w'.heap.size ≤ x) ∧ Below w'.heap.size w' wr ∧ W6.heap.size ≤ wr.heap.size) (fun s27 _ => ks.length - (intOf s27).toNat)
 case atStart => exact ⟨0, b, _, Nat.zero_le _, rfl, HS.out, fun x o h => by (have := h.1; omega), H6.out, Nat.le_refl _⟩
 case round =>
   obtain ⟨j, b', F, hj, rfl, hS, hF, hbel, hz⟩ := hrel
   obtain ⟨g1, g2, g3⟩ := Tr.gone_valid HV.out ks j hj
   have hsnoc := fun h => Tr.gone_snoc wide t (ks := ks) (j := j) h
   obtain ⟨S, hSe⟩ : ∃ S, S = Tr.gone wide t (ks.take j) := ⟨_, rfl⟩
   rw [← hSe] at hS g1 g2 g3 hsnoc
   have HR := Lib.hid (And.intro hS (And.intro hF (And.intro hbel (And.intro g1 (And.intro hsnoc hSe)))))
   have gw := Tr.valid_small g1
   clear hS hF g1 hsnoc hSe
   by_cases hlt : j < ks.length
   · obtain ⟨_, _, hvk, -, -, -, hat⟩ := HKI.out wr hbel
     injection hvk with ev1 _ ev3
     subst ev1 ev3
     rcases hat with h0 | ⟨kb, ko, rfl, hkb, hat⟩
     · rw [h0] at hlt; simp at hlt
     have hcell := hat j hlt
     obtain ⟨k, hk⟩ : ∃ k, k = ks.getD j 0 := ⟨_, rfl⟩
     rw [← hk] at hcell
     have hjk : (j : Int) < (ks.length : Int) := by omega
     have HKk := Lib.hid hk
     clear hat hbel hk
     cases hp : (S.t.path k).2 with
     | false =>
       have hcall := remove_none_c wide k wr w5.heap.size S.b S.j S.sh F b' S.t HR.out.1 (Tr.valid_well HR.out.2.2.2.1) (by omega) hp
       have HC := Lib.hid hcall
       have HE := Lib.hid (show Tr.gone wide t (ks.take (j + 1)) = S by rw [HR.out.2.2.2.2.1 hlt, ← HKk.out, Tr.takeKey, if_neg (by rw [hp]; simp)])
       clear hcall hp
       go_wp2_with fail
       refine HC.out.mono ?_
       rintro e w7 ⟨F', b2', rfl, hgr, hF', hk7⟩
       have H7 := Lib.hid (And.intro hgr (And.intro hF' hk7))
       have hs7 := hk7.size
       clear hgr hF' hk7
       go_wp2_with fail
       go_roundw
       case rel =>
         refine ⟨j + 1, b2', F', by omega, by go_num, by rw [HE.out]; exact H7.out.1, fun x o h => ?_, HR.out.2.2.1.trans (H7.out.2.2.below (by omega) (fun x o h => ?_)), by omega⟩
         · rcases H7.out.2.1 x o h with h | h
           · exact HR.out.2.1 x o h
           · omega
         · rcases h with h | h
           · exact HR.out.2.1 x o h
           · omega
       case measure => simp [intOf]; omega
     | true =>
       have hcall := remove_c wide k (Tr.valid_wide HV.out) wr w5.heap.size S.b S.j S.sh F b' S.t HR.out.1 (Tr.Lacks.of_tops (Tr.valid_well HR.out.2.2.2.1) (Tr.Tops.of_valid HR.out.2.2.2.1 (Tr.valid_wide HV.out).1) hp) (by omega) (by omega) (by omega)
       have HC := Lib.hid hcall
       have HE := Lib.hid (show Tr.gone wide t (ks.take (j + 1)) = ⟨Tr.delT wide k S.t, S.b + (Tr.del (wide / 2) (S.t.weight + 1) k S.t).b, S.j + (Tr.del (wide / 2) (S.t.weight + 1) k S.t).j, S.sh || Tr.delShrinks wide k S.t⟩ by rw [HR.out.2.2.2.2.1 hlt, ← HKk.out, Tr.takeKey, if_pos hp])
       clear hcall hp
       go_wp2_with fail
       refine HC.out.mono ?_
       rintro e w7 ⟨F', b2', rfl, hgr, hF', hk7⟩
       have H7 := Lib.hid (And.intro hgr (And.intro hF' hk7))
       have hs7 := hk7.size
       clear hgr hF' hk7
       go_wp2_with fail
       go_roundw
       case rel =>
         refine ⟨j + 1, b2', F', by omega, by go_num, by rw [HE.out]; exact H7.out.1, fun x o h => ?_, HR.out.2.2.1.trans (H7.out.2.2.below (by omega) (fun x o h => ?_)), by omega⟩
         · rcases H7.out.2.1 x o h with h | h
           · exact HR.out.2.1 x o h
           · omega
         · rcases h with h | h
           · exact HR.out.2.1 x o h
           · omega
       case measure => simp [intOf]; omega
   · have hjk : ¬ (j : Int) < (ks.length : Int) := by omega
     have HE := Lib.hid (show Tr.gone wide t ks = S by rw [HR.out.2.2.2.2.2, show j = ks.length by omega, List.take_length])
     go_wp2_with fail
     refine bodyPost_ret (v := .tuple #[.pointer (some ⟨w5.heap.size, 0, none⟩), .bool true]) (by simp [results, Try.results84, go_sem]) rfl (.inr ⟨HA.out, _, b', F, rfl, by rw [HE.out]; exact HR.out.1, HR.out.2.1, by omega, HR.out.2.2.1⟩)
end Go.Proofs.Ytananonjomfpkaa
/- A map from pointers to bools, by what is said of the keys that hold false. -/
namespace Go.Proofs.Ytananonjomfpkaa
open Go.RowKit
theorem pfind_some {q : Addr} : ∀ {L : List (Addr × Value × Nat)} {i j : Nat} {v : Value}, pfind q L i = some (j, v) → i ≤ j ∧ ∃ h : j - i < L.length, L[j - i].1 = q ∧ L[j - i].2.1 = v
 | [], i, j, v, h => by cases h
 | e :: es, i, j, v, h => by
   simp only [pfind] at h
   by_cases hq : q = e.1
   · rw [if_pos hq] at h
     obtain ⟨rfl, rfl⟩ : i = j ∧ e.2.1 = v := by simpa using h
     refine ⟨Nat.le_refl _, by simp, ?_⟩
     simp [hq]
   · rw [if_neg hq] at h
     obtain ⟨h1, h2, h3⟩ := pfind_some h
     have e1 : j - i = (j - (i + 1)) + 1 := by omega
     refine ⟨by omega, by simp; omega, ?_⟩
     simp only [e1, List.getElem_cons_succ]
     exact h3
theorem pfind_not {q : Addr} : ∀ {L : List (Addr × Value × Nat)} {i : Nat}, pfind q L i = none → ∀ e ∈ L, q ≠ e.1
 | [], i, h => by simp
 | e :: es, i, h => by
   simp only [pfind] at h
   by_cases hq : q = e.1
   · rw [if_pos hq] at h; cases h
   · rw [if_neg hq] at h
     intro x hx
     rcases List.mem_cons.1 hx with rfl | hx
     · exact hq
     · exact pfind_not h x hx
def BMap (w : World) (N b : Nat) (S : Addr → Prop) : Prop :=
 ∃ L clock, PMapIs w b L clock ∧ (∀ e ∈ L, PAddr w e.1 ∧ e.1.block < N) ∧ (L.map (·.1)).Nodup ∧ ∀ e ∈ L, ∃ bo : Bool, e.2.1 = .bool bo ∧ (bo = false → S e.1)
theorem PAddr.kept {w w' : World} {a : Addr} (h : PAddr w a) (hk : ∀ k, k < w.heap.size → k = a.block → w'.heap[k]? = w.heap[k]?) : PAddr w' a := by
 obtain ⟨c, t, h⟩ := h
 exact ⟨c, t, (hk _ (Array.getElem?_eq_some_iff.1 h).1 rfl).trans h⟩
theorem BMap.kept {w w' : World} {N b : Nat} {S : Addr → Prop} (h : BMap w N b S) (hb : w'.heap[b]? = w.heap[b]?) (hp : ∀ a, a.block < N → PAddr w a → PAddr w' a) : BMap w' N b S := by
 obtain ⟨L, clock, h1, h2, h3, h4⟩ := h
 exact ⟨L, clock, hb.trans h1, fun e he => ⟨hp _ (h2 e he).2 (h2 e he).1, (h2 e he).2⟩, h3, h4⟩
theorem BMap.weaken {w : World} {N b : Nat} {S S' : Addr → Prop} (h : BMap w N b S) (hs : ∀ a, S a → S' a) : BMap w N b S' := by
 obtain ⟨L, clock, h1, h2, h3, h4⟩ := h
 exact ⟨L, clock, h1, h2, h3, fun e he => by obtain ⟨bo, e1, e2⟩ := h4 e he; exact ⟨bo, e1, fun h => hs _ (e2 h)⟩⟩
section
variable {P : Program} {T K E V : TypeId} {j jv : TypeInfo}
theorem bmap_new (w : World) (N : Nat) (S : Addr → Prop) : BMap (w.alloc (.map #[] 0)) N w.heap.size S :=
 ⟨[], 0, by unfold PMapIs; rw [show (w.alloc (.map #[] 0)).heap[w.heap.size]? = some (.map #[] 0) from World.alloc_heap_new w _]; rfl, by simp, by simp, by simp⟩
theorem bmap_lookup (w : World) (hT : P.underlying T = some (.map K V)) (hk : P.underlying K = some (.pointer E)) (hE : P.info? E = some j) (hsz : j.size ≠ 0) (hV : P.info? V = some jv) (hz : jv.zero = some (.bool false))
   {N b : Nat} {S : Addr → Prop} (hm : BMap w N b S) {q : Addr} (hq : PAddr w q) :
   ∃ bo known : Bool, (Instr.lookup T (.map (some b)) (.pointer (some q)) true).run P w = .ok (.tuple #[.bool bo, .bool known]) w ∧ (known = true → bo = false → S q) := by
 obtain ⟨L, clock, h1, h2, h3, h4⟩ := hm
 have hf := run_findKey_ptr w hk hE hsz hq L (fun e he => (h2 e he).1)
 unfold PMapIs at h1
 cases hp : pfind q L 0 with
 | none =>
   rw [hp] at hf
   exact ⟨false, false, by simp [Instr.lookup, run_underlying hT, getObj, Sem.run, h1, run_checkKey_ptr w _ 9999 hk, hf, zeroValue, typeInfo, hV, hz], fun h => by cases h⟩
 | some r =>
   obtain ⟨i, v⟩ := r
   rw [hp] at hf
   obtain ⟨_, hi, e1, e2⟩ := pfind_some hp
   obtain ⟨bo, e3, e4⟩ := h4 _ (List.getElem_mem hi)
   rw [e2] at e3
   subst e3
   exact ⟨bo, true, by simp [Instr.lookup, run_underlying hT, getObj, Sem.run, h1, run_checkKey_ptr w _ 9999 hk, hf], fun _ h => by rw [← e1]; exact e4 h⟩
theorem bmap_update (w : World) (hT : P.underlying T = some (.map K V)) (hk : P.underlying K = some (.pointer E)) (hE : P.info? E = some j) (hsz : j.size ≠ 0)
   {N b : Nat} {S : Addr → Prop} (hm : BMap w N b S) {q : Addr} (hq : PAddr w q) (hqN : q.block < N) (bo : Bool) :
   ∃ o : Obj, (Instr.mapUpdate T (.map (some b)) (.pointer (some q)) (.bool bo)).run P w = .ok () (w.putObj b o) ∧ BMap (w.putObj b o) N b (fun a => (S a ∧ a ≠ q) ∨ (bo = false ∧ a = q)) ∧ b < w.heap.size ∧ ∀ a, PAddr w a → a.block ≠ b := by
 obtain ⟨L, clock, h1, h2, h3, h4⟩ := hm
 have hf := run_findKey_ptr w hk hE hsz hq L (fun e he => (h2 e he).1)
 have hb := h1
 unfold PMapIs at h1
 have hlt : b < w.heap.size := (Array.getElem?_eq_some_iff.1 h1).1
 have hne : ∀ a, PAddr w a → a.block ≠ b := fun a ⟨c, t, h⟩ e => by rw [e, h1] at h; cases h
 have hput : ∀ (o : Obj) a, PAddr w a → PAddr (w.putObj b o) a := fun o a h => h.kept (fun k _ e => World.putObj_heap_other (by rw [e]; exact hne a h))
 cases hp : pfind q L 0 with
 | none =>
   rw [hp] at hf
   have hno := pfind_not hp
   refine ⟨.map ((L ++ [(q, Value.bool bo, clock)]).map mkEntry).toArray (clock + 1), by simp [Instr.mapUpdate, run_underlying hT, getObj, setObj, Sem.run, h1, run_checkKey_ptr w _ 9999 hk, hf, mkEntry, World.putObj], ?_, hlt, hne⟩
   refine ⟨L ++ [(q, .bool bo, clock)], clock + 1, (by unfold PMapIs; exact World.putObj_heap_same hlt), fun e he => ?_, ?_, fun e he => ?_⟩
   · rcases List.mem_append.1 he with he | he
     · exact ⟨hput _ _ (h2 e he).1, (h2 e he).2⟩
     · obtain rfl : e = (q, .bool bo, clock) := by simpa using he
       exact ⟨hput _ _ hq, hqN⟩
   · rw [List.map_append, List.nodup_append]
     refine ⟨h3, by simp, fun a ha c hc => ?_⟩
     obtain ⟨e, he, rfl⟩ := List.mem_map.1 ha
     obtain rfl : c = q := by simpa using hc
     exact (hno e he).symm
   · rcases List.mem_append.1 he with he | he
     · obtain ⟨b1, e1, e2⟩ := h4 e he
       exact ⟨b1, e1, fun h => .inl ⟨e2 h, (hno e he).symm⟩⟩
     · obtain rfl : e = (q, .bool bo, clock) := by simpa using he
       exact ⟨bo, rfl, fun h => .inr ⟨h, rfl⟩⟩
 | some r =>
   obtain ⟨i, v⟩ := r
   rw [hp] at hf
   obtain ⟨_, hi, e1, e2⟩ := pfind_some hp
   simp only [Nat.sub_zero] at hi e1 e2
   have hmod : ((L.map mkEntry).toArray.modify i fun e => { e with key := .pointer (some q), val := .bool bo }) = ((L.modify i (fun e => (e.1, .bool bo, e.2.2))).map mkEntry).toArray := by
     apply Array.ext'
     simp only [Array.toList_modify]
     apply List.ext_getElem?
     intro k
     simp only [List.getElem?_modify, List.getElem?_map]
     by_cases hk : i = k
     · subst hk
       simp [hi, mkEntry, e1]
     · simp [hk]
   refine ⟨.map ((L.modify i (fun e => (e.1, .bool bo, e.2.2))).map mkEntry).toArray clock, ?_, ?_, hlt, hne⟩
   · rw [← hmod]
     simp [Instr.mapUpdate, run_underlying hT, getObj, setObj, Sem.run, h1, run_checkKey_ptr w _ 9999 hk, hf, World.putObj, Instr.keyThatStays, Instr.sameBits, hi, mkEntry, e1]
   · have hmem : ∀ e ∈ L.modify i (fun e => (e.1, Value.bool bo, e.2.2)), (e.1 = q ∧ e.2.1 = .bool bo) ∨ (e ∈ L ∧ e.1 ≠ q) := by
       intro e he
       obtain ⟨k, hk, rfl⟩ := List.getElem_of_mem he
       rw [List.length_modify] at hk
       by_cases hik : i = k
       · subst hik
         left
         simp [e1]
       · right
         simp only [List.getElem_modify, if_neg hik]
         refine ⟨List.getElem_mem hk, fun e => hik ?_⟩
         have h5 : (L.map (·.1))[i]'(by simpa using hi) = (L.map (·.1))[k]'(by simpa using hk) := by simp [e1, e]
         exact (List.getElem_inj h3).1 h5
     refine ⟨L.modify i (fun e => (e.1, .bool bo, e.2.2)), clock, (by unfold PMapIs; exact World.putObj_heap_same hlt), fun e he => ?_, ?_, fun e he => ?_⟩
     · rcases hmem e he with h | h
       · rw [h.1]; exact ⟨hput _ _ hq, hqN⟩
       · exact ⟨hput _ _ (h2 e h.1).1, (h2 e h.1).2⟩
     · have : (L.modify i (fun e => (e.1, Value.bool bo, e.2.2))).map (·.1) = L.map (·.1) := by
         apply List.ext_getElem?
         intro k
         simp only [List.getElem?_map, List.getElem?_modify]
         by_cases hk : i = k
         · subst hk; simp [hi]
         · simp [hk]
       rw [this]; exact h3
     · rcases hmem e he with h | h
       · exact ⟨bo, h.2, fun hb => .inr ⟨hb, h.1⟩⟩
       · obtain ⟨b1, e3, e4⟩ := h4 e h.1
         exact ⟨b1, e3, fun hb => .inl ⟨e4 hb, h.2⟩⟩
end
end Go.Proofs.Ytananonjomfpkaa
/- Maps of pointers to counts. -/
namespace Go.Proofs.Ytananonjomfpkaa
open Go.RowKit
def CMap (w : World) (b : Nat) (K : Nat → Option Nat) : Prop :=
 ∃ L clock, PMapIs w b L clock ∧ (∀ e ∈ L, PAddr w e.1 ∧ ∃ k n : Nat, e.1 = ⟨k, 0, none⟩ ∧ e.2.1 = .int .i64 n ∧ K k = some n) ∧ ∀ k n, K k = some n → ∃ e ∈ L, e.1 = ⟨k, 0, none⟩
section
variable {P : Program} {T K E V : TypeId} {j jv : TypeInfo}
end
end Go.Proofs.Ytananonjomfpkaa

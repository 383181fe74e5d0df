/- Deleting: a valid tree stays one, without the key. -/
import Derived.Test.YtananonjomfpkaaQf33
import Derived.Test.YtananonjomfpkaaQf31
namespace Go.Proofs.Ytananonjomfpkaa
open Go.RowKit
namespace Tr
def Under (wide least d : Int) : Tr → Prop
 | .mk k c => (least ≤ (k.length : Int) + 1 ∧ (k.length : Int) ≤ wide) ∧ ((c.length = 0 ∧ d = 1) ∨ (c.length ≠ 0 ∧ d ≠ 1 ∧ c.length = k.length + 1 ∧ ∀ x ∈ c, nodesB wide (wide / 2) (d - 1) x = true))
theorem Under.of_nodes {wide least d : Int} {t : Tr} (h : nodesB wide least d t = true) : Under wide least d t := by
 cases t with
 | mk k c =>
   obtain ⟨⟨h1, h2⟩, h3⟩ := nodes_mem h
   exact ⟨⟨by omega, h2⟩, h3.imp id (fun ⟨a, b, c', _, f⟩ => ⟨a, b, c', f⟩)⟩
theorem Under.fits {wide least d : Int} {t : Tr} (h : Under wide least d t) (hl : least ≤ (t.ks.length : Int)) (h0 : t.ks.length ≠ 0 ∨ t.cs.length = 0) : nodesB wide least d t = true := by
 cases t with
 | mk k c =>
   obtain ⟨⟨h1, h2⟩, h3⟩ := h
   refine nodes_of ⟨⟨hl, h2⟩, h3.imp id (fun ⟨a, b, c', f⟩ => ⟨a, b, c', ?_, f⟩)⟩
   rcases h0 with h0 | h0
   · exact h0
   · exact absurd h0 a
theorem Under.pair {wide l1 l2 e : Int} {x y : Tr} (hx : Under wide l1 e x) (hy : Under wide l2 e y) : Pair x y := by
 cases x with
 | mk kx cx =>
 cases y with
 | mk ky cy =>
   rcases hx.2 with ⟨a1, a2⟩ | ⟨a1, a2, a3, _⟩
   · rcases hy.2 with ⟨b1, b2⟩ | ⟨b1, b2, b3, _⟩
     · exact .inl ⟨a1, b1⟩
     · exact absurd a2 b2
   · rcases hy.2 with ⟨b1, b2⟩ | ⟨b1, b2, b3, _⟩
     · exact absurd b2 a2
     · exact .inr ⟨a3, b3⟩
theorem joined_fit {wide e : Int} (hw : 2 ≤ wide) {x y : Tr} (m : Int) (hx : Under wide (wide / 2) e x) (hy : Under wide (wide / 2) e y) (h1 : wide / 2 ≤ (x.ks.length : Int) + 1 + (y.ks.length : Int)) (h2 : (x.ks.length : Int) + 1 + (y.ks.length : Int) ≤ wide) :
   nodesB wide (wide / 2) e (.mk (x.ks ++ m :: y.ks) (x.cs ++ y.cs)) = true := by
 cases x with
 | mk kx cx =>
 cases y with
 | mk ky cy =>
   simp only [ks, cs] at h1 h2 ⊢
   refine nodes_of ⟨⟨by simp; omega, by simp; omega⟩, ?_⟩
   rcases hx.2 with ⟨a1, a2⟩ | ⟨a1, a2, a3, a4⟩
   · rcases hy.2 with ⟨b1, b2⟩ | ⟨b1, b2, b3, _⟩
     · exact .inl ⟨by rw [List.length_append]; omega, a2⟩
     · exact absurd a2 b2
   · rcases hy.2 with ⟨b1, b2⟩ | ⟨b1, b2, b3, b4⟩
     · exact absurd b2 a2
     · refine .inr ⟨by rw [List.length_append]; omega, a2, by simp; omega, by simp, fun z hz => ?_⟩
       rcases List.mem_append.1 hz with hz | hz
       · exact a4 z hz
       · exact b4 z hz
theorem ahead_fit {wide e : Int} (hw : 2 ≤ wide) {x y : Tr} (m : Int) (hx : Under wide (wide / 2) e x) (hy : Under wide (wide / 2) e y) (hl : wide / 2 < (x.ks.length : Int)) (hs : (y.ks.length : Int) < wide / 2) :
   nodesB wide (wide / 2) e (.mk (x.ks.take (x.ks.length - 1)) (x.cs.take x.ks.length)) = true ∧ nodesB wide (wide / 2) e (.mk (m :: y.ks) (oneFirst x.cs y.cs x.ks.length)) = true := by
 cases x with
 | mk kx cx =>
 cases y with
 | mk ky cy =>
   simp only [ks, cs] at hl hs ⊢
   obtain ⟨⟨x1, x2⟩, x3⟩ := hx
   obtain ⟨⟨y1, y2⟩, y3⟩ := hy
   rcases x3 with ⟨a1, a2⟩ | ⟨a1, a2, a3, a4⟩
   · rcases y3 with ⟨b1, b2⟩ | ⟨b1, b2, b3, _⟩
     · exact ⟨nodes_of ⟨⟨by simp; omega, by simp; omega⟩, .inl ⟨by simp [a1], a2⟩⟩, nodes_of ⟨⟨by simp; omega, by simp; omega⟩, .inl ⟨by rw [oneFirst, if_pos a1]; exact b1, a2⟩⟩⟩
     · exact absurd a2 b2
   · rcases y3 with ⟨b1, b2⟩ | ⟨b1, b2, b3, b4⟩
     · exact absurd b2 a2
     · refine ⟨nodes_of ⟨⟨by simp; omega, by simp; omega⟩, .inr ⟨by rw [List.length_take]; omega, a2, by rw [List.length_take, List.length_take]; omega, by rw [List.length_take]; omega, fun z hz => a4 z (List.mem_of_mem_take hz)⟩⟩,
         nodes_of ⟨⟨by simp; omega, by simp; omega⟩, .inr ⟨by rw [oneFirst, if_neg a1]; simp, a2, by rw [oneFirst, if_neg a1]; simp; omega, by simp, fun z hz => ?_⟩⟩⟩
       rw [oneFirst, if_neg a1] at hz
       rcases List.mem_cons.1 hz with rfl | hz
       · rw [kidAt_get (by omega)]; exact a4 _ (List.getElem_mem _)
       · exact b4 z hz
theorem behind_fit {wide e : Int} (hw : 2 ≤ wide) {x y : Tr} (m : Int) (hx : Under wide (wide / 2) e x) (hy : Under wide (wide / 2) e y) (hl : wide / 2 < (y.ks.length : Int)) (hs : (x.ks.length : Int) < wide / 2) :
   nodesB wide (wide / 2) e (.mk (x.ks ++ [m]) (oneMore x.cs y.cs)) = true ∧ nodesB wide (wide / 2) e (.mk (y.ks.drop 1) (y.cs.drop 1)) = true := by
 cases x with
 | mk kx cx =>
 cases y with
 | mk ky cy =>
   simp only [ks, cs] at hl hs ⊢
   obtain ⟨⟨x1, x2⟩, x3⟩ := hx
   obtain ⟨⟨y1, y2⟩, y3⟩ := hy
   rcases x3 with ⟨a1, a2⟩ | ⟨a1, a2, a3, a4⟩
   · rcases y3 with ⟨b1, b2⟩ | ⟨b1, b2, b3, _⟩
     · exact ⟨nodes_of ⟨⟨by simp; omega, by simp; omega⟩, .inl ⟨by rw [oneMore, if_pos b1]; exact a1, a2⟩⟩, nodes_of ⟨⟨by simp; omega, by simp; omega⟩, .inl ⟨by simp [b1], a2⟩⟩⟩
     · exact absurd a2 b2
   · rcases y3 with ⟨b1, b2⟩ | ⟨b1, b2, b3, b4⟩
     · exact absurd b2 a2
     · refine ⟨nodes_of ⟨⟨by simp; omega, by simp; omega⟩, .inr ⟨by rw [oneMore, if_neg b1]; simp, a2, by rw [oneMore, if_neg b1]; simp; omega, by simp, fun z hz => ?_⟩⟩,
         nodes_of ⟨⟨by simp; omega, by simp; omega⟩, .inr ⟨by rw [List.length_drop]; omega, a2, by rw [List.length_drop, List.length_drop]; omega, by rw [List.length_drop]; omega, fun z hz => b4 z (List.mem_of_mem_drop hz)⟩⟩⟩
       rw [oneMore, if_neg b1] at hz
       rcases List.mem_append.1 hz with hz | hz
       · exact a4 z hz
       · simp at hz; subst hz
         rw [kidAt_get (by omega)]; exact b4 _ (List.getElem_mem _)
theorem repair_under {wide least d : Int} (hw : 2 ≤ wide) {k : List Int} {c : List Tr} {i b j : Nat} (hl : least ≤ (k.length : Int) ∧ (k.length : Int) ≤ wide) (hd : d ≠ 1) (hc : c.length = k.length + 1) (hk : 1 ≤ k.length) (hi : i < c.length)
   (hu : Under wide (wide / 2) (d - 1) (kidAt c i)) (hall : ∀ m, m < c.length → m ≠ i → nodesB wide (wide / 2) (d - 1) (kidAt c m) = true) : Under wide least d (repair (wide / 2) k c i b j).t := by
 have hmem : ∀ z, z ∈ c → ∃ m, m < c.length ∧ z = kidAt c m := fun z hz => by
   obtain ⟨m, hm, rfl⟩ := List.getElem_of_mem hz
   exact ⟨m, hm, (kidAt_get hm).symm⟩
 have hun : ∀ m, m < c.length → Under wide (wide / 2) (d - 1) (kidAt c m) := fun m hm => by
   by_cases e : m = i
   · rw [e]; exact hu
   · exact Under.of_nodes (hall m hm e)
 by_cases hle : wide / 2 ≤ ((kidAt c i).ks.length : Int)
 · rw [repair_none (by omega)]
   refine ⟨⟨by omega, hl.2⟩, .inr ⟨by omega, hd, hc, fun z hz => ?_⟩⟩
   obtain ⟨m, hm, rfl⟩ := hmem z hz
   by_cases e : m = i
   · rw [e]; exact hu.fits hle (.inl (by omega))
   · exact hall m hm e
 · rw [repair_eq (by omega)]
   dsimp only
   -- two kids side by side: what has become of them, and the others
   have two : ∀ q, q + 1 < c.length → (q = i ∨ q + 1 = i) → ∀ (k2 : List Int) (x' y' : Tr), k2.length = k.length → nodesB wide (wide / 2) (d - 1) x' = true → nodesB wide (wide / 2) (d - 1) y' = true → Under wide least d (.mk k2 (setTwo c q x' y')) := fun q hq hqi k2 x' y' hk2 hx hy => by
     refine ⟨⟨by rw [hk2]; omega, by rw [hk2]; exact hl.2⟩, .inr ⟨by rw [setTwo_length hq]; omega, hd, by rw [setTwo_length hq, hk2]; exact hc, fun z hz => ?_⟩⟩
     unfold setTwo at hz
     simp only [List.mem_append, List.mem_cons] at hz
     rcases hz with hz | rfl | rfl | hz
     · obtain ⟨m, hm, rfl⟩ := List.getElem_of_mem hz
       rw [List.length_take] at hm
       rw [List.getElem_take, ← kidAt_get (by omega)]
       exact hall m (by omega) (by omega)
     · exact hx
     · exact hy
     · obtain ⟨m, hm, rfl⟩ := List.getElem_of_mem hz
       rw [List.length_drop] at hm
       rw [List.getElem_drop, ← kidAt_get (by omega)]
       exact hall (q + 2 + m) (by omega) (by omega)
   have one : ∀ q, q + 1 < c.length → (q = i ∨ q + 1 = i) → ∀ (k2 : List Int) (x' : Tr), k2.length + 1 = k.length → nodesB wide (wide / 2) (d - 1) x' = true → Under wide least d (.mk k2 (setOne c q x')) := fun q hq hqi k2 x' hk2 hx => by
     have hlen := setOne_length (c := c) (i := q) (x := x') hq
     refine ⟨⟨by omega, by omega⟩, .inr ⟨by omega, hd, by omega, fun z hz => ?_⟩⟩
     unfold setOne at hz
     simp only [List.mem_append, List.mem_cons] at hz
     rcases hz with hz | rfl | hz
     · obtain ⟨m, hm, rfl⟩ := List.getElem_of_mem hz
       rw [List.length_take] at hm
       rw [List.getElem_take, ← kidAt_get (by omega)]
       exact hall m (by omega) (by omega)
     · exact hx
     · obtain ⟨m, hm, rfl⟩ := List.getElem_of_mem hz
       rw [List.length_drop] at hm
       rw [List.getElem_drop, ← kidAt_get (by omega)]
       exact hall (q + 2 + m) (by omega) (by omega)
   have hlow : ∀ m, m < c.length → wide / 2 ≤ ((kidAt c m).ks.length : Int) + 1 := fun m hm => by
     have h := hun m hm
     generalize kidAt c m = u at h
     obtain ⟨a, b⟩ := u
     exact h.1.1
   have hge : ∀ m, m < c.length → m ≠ i → wide / 2 ≤ ((kidAt c m).ks.length : Int) := fun m hm e => by
     have h := hall m hm e
     generalize kidAt c m = u at h
     obtain ⟨a, b⟩ := u
     exact (nodes_mem h).1.1
   have hli := hlow i hi
   unfold mend mended
   by_cases h1 : 0 < i ∧ wide / 2 < ((kidAt c (i - 1)).ks.length : Int)
   · rw [if_pos h1, if_pos rfl]
     have hq : i - 1 + 1 = i := by omega
     have hf := ahead_fit hw (k.getD (i - 1) 0) (hun (i - 1) (by omega)) hu h1.2 (by omega)
     unfold ahead
     rw [hq]
     have h0 : (kidAt c (i - 1)).ks.length - 1 + 1 = (kidAt c (i - 1)).ks.length := by omega
     simp only [h0]
     exact two (i - 1) (by omega) (.inr hq) _ _ _ (by simp) hf.1 hf.2
   · rw [if_neg h1]
     by_cases h2 : i + 1 < c.length ∧ wide / 2 < ((kidAt c (i + 1)).ks.length : Int)
     · rw [if_pos h2, if_neg (by omega), if_pos rfl]
       have hf := behind_fit hw (k.getD i 0) hu (hun (i + 1) h2.1) h2.2 (by omega)
       unfold behind
       exact two i h2.1 (.inl rfl) _ _ _ (by simp) hf.1 hf.2
     · rw [if_neg h2]
       by_cases h3 : 0 < i
       · rw [if_pos h3, if_neg (by omega), if_neg (by omega), if_pos rfl]
         have hq : i - 1 + 1 = i := by omega
         have hg := hge (i - 1) (by omega) (by omega)
         have hf := joined_fit hw (k.getD (i - 1) 0) (hun (i - 1) (by omega)) hu (by omega) (by omega)
         unfold joined
         rw [hq]
         exact one (i - 1) (by omega) (.inr hq) _ _ (takeAt_length (by omega)) hf
       · have h4 : i + 1 < c.length := by omega
         rw [if_neg h3, if_neg (by omega), if_neg (by omega), if_neg (by omega)]
         have hg := hge (i + 1) h4 (by omega)
         have hf := joined_fit hw (k.getD i 0) hu (hun (i + 1) h4) (by omega) (by omega)
         unfold joined
         exact one i h4 (.inl rfl) _ _ (takeAt_length (by omega)) hf
theorem del_facts {wide : Int} (hw : 2 ≤ wide) : ∀ (n : Nat) (key : Int) (least d : Int) (t : Tr), t.weight < n → nodesB wide least d t = true → Lacks key t →
   Under wide least d (del (wide / 2) n key t).t ∧ ∃ A B, t.keys = A ++ key :: B ∧ (del (wide / 2) n key t).t.keys = A ++ B := by
 intro n
 induction n with
 | zero => intro key least d t h; omega
 | succ n ih =>
   rintro key least d ⟨k, c⟩ hn hnode hl
   obtain ⟨hsz, hsh⟩ := nodes_mem hnode
   by_cases h0 : c.length = 0
   · have hp := hl.leaf h0
     obtain rfl : c = [] := List.length_eq_zero_iff.1 h0
     rw [del_leaf h0]
     obtain ⟨KA, KB, hk, hkl⟩ := split_key hp
     have hown : k.getD (place key k) 0 = key := by
       by_cases ho : place key k < k.length ∧ k.getD (place key k) 0 = key
       · exact ho.2
       · have := hl.2.2
         rw [path_leaf ho h0] at this; cases this
     rw [hown] at hk
     have hlen := takeAt_length hp
     refine ⟨⟨⟨by omega, by omega⟩, .inl ⟨rfl, ?_⟩⟩, KA, KB, ?_, ?_⟩
     · rcases hsh with h | h
       · exact h.2
       · exact absurd h0 h.1
     · rw [keys_weave, weave_nil]; exact hk
     · rw [keys_weave, weave_nil]
       conv => lhs; rw [← hkl, hk]
       exact takeAt_split KA KB key
   · obtain ⟨hc, hk1, hi, hlx⟩ := hl.kid h0
     rcases hsh with ⟨h, _⟩ | ⟨_, hd, _, _, hkids⟩
     · exact absurd h h0
     obtain ⟨i, hie⟩ : ∃ i, i = place key k := ⟨_, rfl⟩
     rw [← hie] at hi hlx
     have hki := kidAt_get hi
     have hwk := weight_get_le c i hi
     simp only [weight] at hn
     have hnk : nodesB wide (wide / 2) (d - 1) (kidAt c i) = true := by rw [hki]; exact hkids _ (List.getElem_mem hi)
     have hwt : (kidAt c i).weight < n := by rw [hki]; omega
     have hoth : ∀ u m, m < (setKid c i u).length → m ≠ i → nodesB wide (wide / 2) (d - 1) (kidAt (setKid c i u) m) = true := fun u m hm e => by
       rw [setKid_eq hi, List.length_set] at hm
       rw [kidAt_set hi, if_neg e, kidAt_get hm]
       exact hkids _ (List.getElem_mem hm)
     have hlen : ∀ u, (setKid c i u).length = c.length := fun u => by rw [setKid_eq hi, List.length_set]
     have hpair : ∀ u, Under wide (wide / 2) (d - 1) u → ∀ q, q + 1 < (setKid c i u).length → Pair (kidAt (setKid c i u) q) (kidAt (setKid c i u) (q + 1)) := fun u hu q hq => by
       have hun : ∀ m, m < (setKid c i u).length → Under wide (wide / 2) (d - 1) (kidAt (setKid c i u) m) := fun m hm => by
         by_cases e : m = i
         · rw [kidAt_set hi, if_pos e]; exact hu
         · exact Under.of_nodes (hoth u m hm e)
       exact (hun q (by omega)).pair (hun (q + 1) hq)
     have hkeys := keys_around (k := k) (c := c) hi hc
     rw [← hki] at hkeys
     have hhalf : (0 : Int) ≤ wide / 2 := by omega
     by_cases ho : ownKey key k
     · rw [if_pos ho] at hlx
       obtain ⟨hu, A, B, hA, hB⟩ := ih _ (wide / 2) (d - 1) (kidAt c i) hwt hnk hlx
       obtain ⟨⟨A2, hA2⟩, -⟩ := greatest_facts _ _ (Nat.le_refl _) hlx.1 hlx.2.1
       rw [del_hit h0 ho, ← hie]
       obtain ⟨g, hg⟩ : ∃ g, g = (kidAt c i).greatest := ⟨_, rfl⟩
       rw [← hg] at hA hA2 hu hB ⊢
       have hBn : B = [] := by
         have hs := hlx.1.2
         rw [hA] at hs
         have h2 := (List.pairwise_append.1 hs).2.1
         have h3 := (List.pairwise_cons.1 h2).1
         cases hBe : B with
         | nil => rfl
         | cons b r =>
           exfalso
           have hl1 : (A ++ g :: B).getLast (by simp) = (A2 ++ [g]).getLast (by simp) := by congr 1; rw [← hA, hA2]
           rw [List.getLast_append_of_ne_nil (by simp) (by simp), List.getLast_append_of_ne_nil (by simp) (by simp)] at hl1
           have hm : g ∈ B := by
             have hne : B ≠ [] := by rw [hBe]; simp
             rw [List.getLast_cons hne] at hl1
             rw [List.getLast_singleton] at hl1
             rw [← hl1]; exact List.getLast_mem hne
           have := h3 g hm
           omega
       subst hBn
       rw [List.append_nil] at hB
       have hik : i < k.length := by rw [hie]; exact ho.1
       have hkey : k.getD i 0 = key := by rw [hie]; exact ho.2
       obtain ⟨KA, KB, hk, hkl⟩ := split_key hik
       rw [hkey] at hk
       have hset : k.set i g = KA ++ g :: KB := by conv => lhs; rw [hk, ← hkl]
                                                   exact set_split KA KB key g
       refine ⟨repair_under hw (by rw [List.length_set]; exact hsz) hd (by rw [hlen, List.length_set]; exact hc) (by rw [List.length_set]; exact hk1) (by rw [hlen]; exact hi) (by rw [kidAt_set hi, if_pos rfl]; exact hu) (hoth _), weave (c.take i) (k.take i) ++ (A ++ [g]), weave (c.drop (i + 1)) KB, ?_, ?_⟩
       · rw [hkeys, hA]
         have hdk : k.drop i = key :: KB := by conv => lhs; rw [hk, ← hkl]
                                               exact List.drop_left' rfl
         rw [hdk]
         simp [tailW]
       · rw [repair_keys hhalf (by rw [hlen, List.length_set]; exact hc) (by rw [List.length_set]; exact hk1) (by rw [hlen]; exact hi) (hpair _ hu), keys_setKid _ hi (by rw [List.length_set]; exact hc), hB]
         have hdk : (k.set i g).drop i = g :: KB := by rw [hset, ← hkl]; exact List.drop_left' rfl
         have htk : (k.set i g).take i = k.take i := by
           rw [hset]; conv => rhs; rw [hk]
           rw [List.take_left' hkl, List.take_left' hkl]
         rw [hdk, htk]
         simp [tailW]
     · rw [if_neg ho] at hlx
       obtain ⟨hu, A, B, hA, hB⟩ := ih _ (wide / 2) (d - 1) (kidAt c i) hwt hnk hlx
       rw [del_miss h0 ho, ← hie]
       refine ⟨repair_under hw hsz hd (by rw [hlen]; exact hc) hk1 (by rw [hlen]; exact hi) (by rw [kidAt_set hi, if_pos rfl]; exact hu) (hoth _), weave (c.take i) (k.take i) ++ A, B ++ tailW (c.drop (i + 1)) (k.drop i), ?_, ?_⟩
       · rw [hkeys, hA]; simp
       · rw [repair_keys hhalf (by rw [hlen]; exact hc) hk1 (by rw [hlen]; exact hi) (hpair _ hu), keys_setKid _ hi hc, hB]; simp
theorem delT_facts {wide key : Int} {t : Tr} (h : lacksB wide key t = true) : validB wide (delT wide key t) = true ∧ (∃ A B, t.keys = A ++ key :: B ∧ (delT wide key t).keys = A ++ B) ∧
   ((delT wide key t).depth : Int) = (t.depth : Int) - (if delShrinks wide key t then 1 else 0) := by
 unfold lacksB at h
 obtain ⟨hv, hp⟩ := Bool.and_eq_true_iff.1 h
 have hwide := valid_wide hv
 have hl := Lacks.of_tops (valid_well hv) (Tops.of_valid hv hwide.1) hp
 have hv0 := hv
 unfold validB at hv
 obtain ⟨hv1, hv2⟩ := Bool.and_eq_true_iff.1 hv
 obtain ⟨hv3, hv4⟩ := Bool.and_eq_true_iff.1 hv2
 obtain ⟨hu, A, B, hA, hB⟩ := del_facts hwide.1 (t.weight + 1) key 0 t.depth t (by omega) hv3 hl
 obtain ⟨D, hD⟩ : ∃ D, D = del (wide / 2) (t.weight + 1) key t := ⟨_, rfl⟩
 have hdt : delT wide key t = if D.t.ks.length = 0 ∧ D.t.cs.length ≠ 0 then kidAt D.t.cs 0 else D.t := by rw [hD]; rfl
 have hds : delShrinks wide key t = decide (D.t.ks.length = 0 ∧ D.t.cs.length ≠ 0) := by rw [hD]; rfl
 rw [← hD] at hu hB
 have hsorted : sortedB (A ++ B) = true := by
   have hs := (valid_well hv0).2
   have hm := sorted_mem hv4
   rw [hA] at hs hm
   have hs2 : (A ++ B).Pairwise (· < ·) := hs.sublist (List.Sublist.append (List.Sublist.refl A) (List.sublist_cons_self key B))
   refine sortedB_of (fun q hq => ?_)
   unfold okAt
   have hmq := hm ((A ++ B).getD q 0) (by
     rw [List.getD_eq_getElem?_getD, List.getElem?_eq_getElem hq, Option.getD_some]
     have := List.getElem_mem hq
     simp only [List.mem_append, List.mem_cons] at this ⊢
     rcases this with h | h
     · exact .inl h
     · exact .inr (.inr h))
   rw [inB_true hmq.1 hmq.2, Bool.true_and]
   by_cases h0 : q = 0
   · simp [h0]
   · have := List.pairwise_iff_getElem.1 hs2 (q - 1) q (by omega) hq (by omega)
     rw [Bool.or_eq_true]; right
     rw [decide_eq_true_eq, List.getD_eq_getElem?_getD, List.getD_eq_getElem?_getD, List.getElem?_eq_getElem hq, List.getElem?_eq_getElem (by omega), Option.getD_some, Option.getD_some]
     exact this
 by_cases hroot : D.t.ks.length = 0 ∧ D.t.cs.length ≠ 0
 · rw [hdt, hds, if_pos hroot, decide_eq_true hroot]
   obtain ⟨⟨dk, dc⟩, db, dj⟩ := D
   simp only [ks, cs] at hroot hB hu ⊢
   obtain ⟨⟨u1, u2⟩, u3⟩ := hu
   rcases u3 with ⟨u3, _⟩ | ⟨u3, u4, u5, u6⟩
   · exact absurd u3 hroot.2
   have hdk : dk = [] := List.length_eq_zero_iff.1 hroot.1
   subst hdk
   obtain ⟨z, rfl⟩ : ∃ z, dc = [z] := List.length_eq_one_iff.1 (by simpa using u5)
   have hz := u6 z (by simp)
   have hk0 : kidAt [z] 0 = z := rfl
   rw [hk0]
   have hzk : z.keys = A ++ B := by rw [← hB, keys_weave, weave_one]
   have hz0 : nodesB wide 0 ((t.depth : Int) - 1) z = true := by
     obtain ⟨a, b⟩ := z
     obtain ⟨⟨z1, z2⟩, z3⟩ := nodes_mem hz
     exact nodes_of ⟨⟨by omega, z2⟩, z3⟩
   have hdep := nodes_depth wide z.weight 0 _ z (Nat.le_refl _) hz0
   refine ⟨?_, ⟨A, B, hA, hzk⟩, ?_⟩
   · unfold validB
     rw [hv1, hdep, hz0, hzk, hsorted]; rfl
   · rw [hdep]; simp
 · rw [hdt, hds, if_neg hroot, decide_eq_false hroot]
   have hN : nodesB wide 0 t.depth D.t = true := hu.fits (by omega) (by
     by_cases h0 : D.t.ks.length = 0
     · right
       by_cases h1 : D.t.cs.length = 0
       · exact h1
       · exact absurd ⟨h0, h1⟩ hroot
     · exact .inl h0)
   have hdep := nodes_depth wide D.t.weight 0 _ D.t (Nat.le_refl _) hN
   refine ⟨?_, ⟨A, B, hA, hB⟩, ?_⟩
   · unfold validB
     rw [hv1, hdep, hN, hB, hsorted]; rfl
   · rw [hdep]; simp
end Tr
end Go.Proofs.Ytananonjomfpkaa

/- Deleting: how many nodes are left: plain data. -/
import Derived.Test.YtananonjomfpkaaQgS12
/- What the loops over steps need: a step's cells; how many steps of a kind a tree has. -/
namespace Go.Proofs.Ytananonjomfpkaa
open Go.RowKit
def Step.node : Step → ATr
 | .beg a => a
 | .key a _ => a
 | .fin a => a
def Step.what : Step → Int
 | .beg _ => 0
 | .key _ _ => 1
 | .fin _ => 2
def Step.kk : Step → Int
 | .beg _ => 0
 | .key _ k => k
 | .fin _ => 0
theorem Step.enc_eq (x : Step) : x.enc = #[.agg #[.pointer (some x.node.addr), .int .i64 x.what, .int .i64 x.kk]] := by cases x <;> rfl
theorem evs_sum (f : List Step → Nat) (h0 : f [] = 0) (happ : ∀ a b, f (a ++ b) = f a + f b) (hk : ∀ a k, f [.key a k] = 0) (he : ∀ a, f [.fin a] = 0) (F : Tr → Nat) (Fs : List Tr → Nat)
   (hFs0 : Fs [] = 0) (hFs : ∀ t r, Fs (t :: r) = F t + Fs r) (hF : ∀ a : ATr, F a.tr = f [.beg a] + Fs (ATr.trs a.cs)) :
   ∀ n (a : ATr), a.weight ≤ n → f a.evs = F a.tr := by
 intro n
 induction n with
 | zero =>
   intro a ha
   have hc : a.cs.length = 0 := by have := ATr.ks_le a; omega
   have hk0 : a.ks.length = 0 := by have := ATr.ks_le a; omega
   rw [evs_eq, remS_end (by omega), hF, List.length_eq_zero_iff.1 hc]
   have : f [.beg a, .fin a] = f [.beg a] + f [.fin a] := happ [.beg a] [.fin a]
   rw [this, he, ATr.trs, hFs0]
 | succ n ih =>
   intro a ha
   -- the steps from place p on
   have hrem : ∀ m p, 2 * max a.cs.length a.ks.length - p = m → f (remS (a, p)) = Fs (ATr.trs (a.cs.drop ((p + 1) / 2))) := by
     intro m
     induction m with
     | zero =>
       intro p hp
       rw [remS_end (by omega), he, List.drop_eq_nil_of_le (by omega), ATr.trs, hFs0]
     | succ m ihm =>
       intro p hp
       rw [remS_step (by omega), happ, ihm (p + 1) (by omega)]
       obtain ⟨i, hi⟩ : ∃ i, p = 2 * i ∨ p = 2 * i + 1 := ⟨p / 2, by omega⟩
       rcases hi with hi | hi
       · subst hi
         rw [show (2 * i + 1 + 1) / 2 = i + 1 by omega, show (2 * i + 1) / 2 = i by omega]
         by_cases hk1 : i < a.cs.length
         · rw [hev_kid hk1, ih a.cs[i] (by have := ATr.weight_kid hk1; omega), List.drop_eq_getElem_cons hk1, ATr.trs, hFs]
         · rw [hev_nokid hk1, h0, List.drop_eq_nil_of_le (by omega), List.drop_eq_nil_of_le (by omega), ATr.trs, hFs0]
       · subst hi
         rw [show (2 * i + 1 + 1 + 1) / 2 = i + 1 by omega, show (2 * i + 1 + 1) / 2 = i + 1 by omega]
         by_cases hk1 : i < a.ks.length
         · rw [hev_key hk1, hk]; omega
         · rw [hev_nokey hk1, h0]; omega
   rw [evs_eq, hF]
   have : f (.beg a :: remS (a, 0)) = f [.beg a] + f (remS (a, 0)) := happ [.beg a] (remS (a, 0))
   rw [this, hrem _ 0 rfl]
   simp
def begs : List Step → Nat
 | [] => 0
 | .beg _ :: r => begs r + 1
 | .key _ _ :: r => begs r
 | .fin _ :: r => begs r
theorem begs_append (a b : List Step) : begs (a ++ b) = begs a + begs b := by
 induction a with
 | nil => simp [begs]
 | cons x r ih => cases x <;> simp [begs, ih] <;> omega
theorem begs_evs (a : ATr) : begs a.evs = a.tr.count := by
 refine evs_sum begs rfl begs_append (fun _ _ => rfl) (fun _ => rfl) Tr.count Tr.counts rfl (fun _ _ => rfl) (fun a => ?_) a.weight a (Nat.le_refl _)
 cases a; simp [ATr.tr, Tr.count, begs, ATr.cs]
def fullBegs (n : Int) : List Step → Nat
 | [] => 0
 | .beg a :: r => fullBegs n r + (if (a.ks.length : Int) = n then 1 else 0)
 | .key _ _ :: r => fullBegs n r
 | .fin _ :: r => fullBegs n r
def keysOf : List Step → List Int
 | [] => []
 | .beg _ :: r => keysOf r
 | .key _ k :: r => k :: keysOf r
 | .fin _ :: r => keysOf r
end Go.Proofs.Ytananonjomfpkaa
/- The contract, over plain blocks, of the program's CountNodes. -/
namespace Go.Proofs.Ytananonjomfpkaa
open Go.RowKit
attribute [local go_sem] Oper.semAt_some
set_option maxRecDepth 100000 in
set_option maxHeartbeats 4000000 in
theorem impl_count_a {w' : World} {kv cv : Value} {t : Tr} (ht' : TreeA w' kv cv t) (hwt : t.weight ≤ 1048576) :
   Calls Try.prog 48 #[.agg #[kv, cv]] w' fun e w'' => e = .returned (.int .i64 t.count) ∧ Below w'.heap.size w' w'' := by
 obtain ⟨sA1, sA2, sA3, sA4, sA5, sA6, rfl, rfl⟩ := ht'.slices
 obtain ⟨W1, hW1⟩ : ∃ W1, W1 = w'.alloc (.cells #[.slice sA1 sA2 sA3, .slice sA4 sA5 sA6] 26) := ⟨_, rfl⟩
 have hs1 : W1.heap.size = w'.heap.size + 1 := by rw [hW1]; simp
 have hb1 : Below w'.heap.size w' W1 := by rw [hW1]; exact (Below.refl _ _).alloc (Nat.le_refl _) _
 have kb : W1.heap[w'.heap.size]? = some (.cells #[.slice sA1 sA2 sA3, .slice sA4 sA5 sA6] 26 (0, 0)) := by rw [hW1, new_blk]
 obtain ⟨a, ha1, ha2, ha3, ha4⟩ := (ht'.later hb1 (Nat.le_refl _)).at w'.heap.size 0 ⟨_, _, kb⟩ (box2 kb).1 (box2 kb).2.1
 have haw : a.weight ≤ 1048576 := by unfold ATr.weight; rw [ha3]; exact hwt
 have hit := steps_iter ha4 haw
 have had : a.addr = ⟨w'.heap.size, 0, none⟩ := by unfold ATr.addr; rw [ha1, ha2]
 rw [had] at hit
 have hcnt := begs_evs a
 rw [ha3] at hcnt
 have hcl : t.count ≤ 1048577 := by have := Tr.count_le t; omega
 have HIT := Lib.hid hit
 have HCNT := Lib.hid hcnt
 have HW1 := Lib.hid hW1
 have HB1 := Lib.hid hb1
 clear hit hcnt hW1 hb1 kb ht' ha1 ha2 ha3 ha4 haw had
 refine (callsIn_wide (n := 9)).1 (callsIn_of_wp_marks Try.func48 rfl trivial ?_ rfl)
 simp only [Try.ntmps48, List.size_toArray, List.length_cons, List.length_nil, Nat.reduceAdd, Nat.reduceSub, Array.replicate_succ, Array.replicate_zero, List.push_toArray, List.append_toArray, List.nil_append, List.cons_append]
 gi_wp2
 rw [← HW1.out]
 obtain ⟨W2, hW2⟩ : ∃ W2, W2 = W1.alloc (.cells #[.int .i64 0] 3) := ⟨_, rfl⟩
 rw [← hW2]
 have hs2 : W2.heap.size = w'.heap.size + 2 := by rw [hW2]; simp; omega
 have hk2 : ∀ K, Keep K W1 W2 := fun K => by rw [hW2]; exact Keep.alloc K _ _
 have b3 : W2.heap[w'.heap.size + 1]? = some (.cells #[.int .i64 0] 3 (0, 0)) := by rw [hW2, ← hs1]; exact new_blk _ _
 have B3 := Lib.hid b3
 clear hW2 b3
 refine wp_loopA (fb := #[.pointer (some ⟨w'.heap.size, 0, none⟩)]) (lb := #[]) rfl (enters_of Try.func66 (by kernel_rfl) rfl) HIT.out (hk2 _) (fun x => by cases x <;> rfl)
   (fun k => k < W1.heap.size) (fun k h => h) (fun k h => by omega)
   (fun pre Pv W => ¬ Pv (w'.heap.size + 1) ∧ W.heap[w'.heap.size + 1]? = some (.cells #[.int .i64 (begs pre)] 3 (0, 0)))
   (fun c pre Pv W => False)
   (fun pre Pv A Pv' B h hk hp => by
     obtain ⟨h1, h2⟩ := h
     have l2 := (Array.getElem?_eq_some_iff.1 h2).1
     refine ⟨fun h => ?_, (hk.block _ l2 h1).trans h2⟩
     rcases hp _ h with h | h
     · exact h1 h
     · omega)
   (fun c pre Pv A Pv' B h hk hp => h)
   ⟨by omega, B3.out⟩
   (fun x a' Pv W => ∃ bx, ¬ Pv bx ∧ bx ≠ w'.heap.size + 1 ∧ W.heap[bx]? = some (.cells #[.pointer (some x.node.addr), .int .i64 x.what, .int .i64 x.kk] 87 (0, 0)) ∧
     a' = { tmps := #[.agg #[.slice sA1 sA2 sA3, .slice sA4 sA5 sA6], .pointer (some ⟨w'.heap.size, 0, none⟩), .int .i64 0, .pointer (some ⟨w'.heap.size + 1, 0, none⟩), .pointer (some ⟨bx, 0, none⟩), .func (.func 66) #[.pointer (some ⟨w'.heap.size, 0, none⟩)] #[], .agg #[.pointer (some x.node.addr), .int .i64 x.what, .int .i64 x.kk], undef, undef, undef, undef, undef, undef], defers := [] })
   (fun x a' Pv A B h hk => by
     obtain ⟨bx, h1, h2, h3, h4⟩ := h
     exact ⟨bx, h1, h2, (hk.block _ (Array.getElem?_eq_some_iff.1 h3).1 h1).trans h3, h4⟩)
   ?assign ?body ?done ?stop
 case assign =>
   intro l m pre x Pv W hI hbnd
   rw [Step.enc_eq]
   have hI' := Lib.hid hI
   have HB := Lib.hid hbnd
   clear hI hbnd
   gi_wp2
   have hlt := (Array.getElem?_eq_some_iff.1 hI'.out.2).1
   refine ⟨Keep.alloc _ _ _, ⟨hI'.out.1, (old_blk _ _ _ hlt).trans hI'.out.2⟩, W.heap.size, fun h => ?_, by omega, new_blk _ _, rfl⟩
   have := HB.out _ h
   omega
 case body =>
   rintro l m pre x a' Pv W ⟨h1, h2⟩ ⟨bx, h3, h4, h5', rfl⟩ hkW hsub hbnd hp
   obtain ⟨c1, f1⟩ := box1 h2
   have c2 : W.cell? ⟨bx, 1, none⟩ = some (.int .i64 x.what) := by simp [World.cell?, h5']
   have hle : begs pre ≤ 1048577 := by
     obtain ⟨r, hr⟩ := hp
     have := HCNT.out
     rw [← hr, begs_append, begs_append] at this
     omega
   have hnx : begs (pre ++ [x]) = begs pre + begs [x] := begs_append _ _
   have HNX := Lib.hid hnx
   have H2 := Lib.hid h2
   clear hnx h2 h5' hp hsub hbnd hkW
   cases x with
   | beg b =>
     have hb : begs (pre ++ [Step.beg b]) = begs pre + 1 := by rw [HNX.out]; rfl
     have HBB := Lib.hid hb
     clear hb
     dsimp only [Step.what] at c2
     gi_wp2
     refine ⟨Keep.setCell _ _ _ _ h1, h1, ?_⟩
     rw [HBB.out]
     exact set_blk _ H2.out
   | key b k =>
     have hb : begs (pre ++ [Step.key b k]) = begs pre := by rw [HNX.out]; rfl
     have HBB := Lib.hid hb
     clear hb
     dsimp only [Step.what] at c2
     gi_wp2
     refine ⟨Keep.refl _ _, h1, ?_⟩
     rw [HBB.out]
     exact H2.out
   | fin b =>
     have hb : begs (pre ++ [Step.fin b]) = begs pre := by rw [HNX.out]; rfl
     have HBB := Lib.hid hb
     clear hb
     dsimp only [Step.what] at c2
     gi_wp2
     refine ⟨Keep.refl _ _, h1, ?_⟩
     rw [HBB.out]
     exact H2.out
 case done =>
   intro W3 hk3 hI hlt hD
   obtain ⟨h1, h2⟩ := hI
   rw [HCNT.out] at h2
   obtain ⟨c1, f1⟩ := box1 h2
   rw [hs2] at hD
   have HD := Lib.hid hD
   have H2 := Lib.hid h2
   clear h2 hD
   gi_wp2
   refine ⟨by simp, .inl ⟨_, _, rfl, run_takeDeferred HD.out, ?_⟩⟩
   refine ⟨_, results_tmp rfl _ _ _, rfl, ?_⟩
   have hk5 : Keep (fun k => k < W1.heap.size) W3 (W3.putObj (w'.heap.size + 2) (.deferred none)) := Keep.putObj _ _ _ _ (by omega)
   exact HB1.out.trans ((((hk2 _).trans hk3).trans hk5).below (B := w'.heap.size) (by omega) (fun k h => by omega))
 case stop =>
   rintro c pre' W3 hk3 hp h hlt hD
   exact h.elim
end Go.Proofs.Ytananonjomfpkaa
/- More on the steps of a tree: the nodes that one comes by; how deep one is. -/
namespace Go.Proofs.Ytananonjomfpkaa
open Go.RowKit
def fins : List Step → Nat
 | [] => 0
 | .fin _ :: r => fins r + 1
 | .key _ _ :: r => fins r
 | .beg _ :: r => fins r
theorem fins_append (a b : List Step) : fins (a ++ b) = fins a + fins b := by
 induction a with
 | nil => simp [fins]
 | cons x r ih => cases x <;> simp [fins, ih] <;> omega
def dep : Int × Int → List Step → Int × Int
 | s, [] => s
 | s, .beg _ :: r => dep (s.1 + 1, max s.2 (s.1 + 1)) r
 | s, .key _ _ :: r => dep s r
 | s, .fin _ :: r => dep (s.1 - 1, s.2) r
theorem dep_append (a b : List Step) : ∀ s, dep s (a ++ b) = dep (dep s a) b := by
 induction a with
 | nil => intro s; rfl
 | cons x r ih => intro s; cases x <;> exact ih _
theorem dep_bounds (l : List Step) : ∀ s : Int × Int, s.1 - fins l ≤ (dep s l).1 ∧ (dep s l).1 ≤ s.1 + begs l ∧ s.2 ≤ (dep s l).2 ∧ (dep s l).2 ≤ max s.2 (s.1 + begs l) := by
 induction l with
 | nil => intro s; simp [dep, fins, begs]; omega
 | cons x r ih =>
   intro s
   cases x with
   | beg a => have h := ih (s.1 + 1, max s.2 (s.1 + 1)); simp only [dep, fins, begs]; simp only at h; omega
   | key a k => have h := ih s; simp only [dep, fins, begs]; omega
   | fin a => have h := ih (s.1 - 1, s.2); simp only [dep, fins, begs]; simp only at h; omega
theorem dep_evs : ∀ n (a : ATr), a.weight ≤ n → ∀ (c d : Int), dep (c, d) a.evs = (c, max d (c + a.tr.depth)) := by
 intro n
 induction n with
 | zero =>
   intro a ha c d
   have hc : a.cs.length = 0 := by have := ATr.ks_le a; omega
   have hk0 : a.ks.length = 0 := by have := ATr.ks_le a; omega
   rw [evs_eq, remS_end (by omega)]
   have hd : a.tr.depth = 1 := by
     cases a with
     | mk nb no k cs =>
       have : cs = [] := List.length_eq_zero_iff.1 hc
       subst this; simp [ATr.tr, ATr.trs, Tr.depth, Tr.depths]
   rw [hd]
   simp only [dep, Prod.mk.injEq]
   omega
 | succ n ih =>
   intro a ha c d
   have hrem : ∀ m p (d : Int), 2 * max a.cs.length a.ks.length - p = m → c + 1 ≤ d → dep (c + 1, d) (remS (a, p)) = (c, max d (c + 1 + Tr.depths (ATr.trs (a.cs.drop ((p + 1) / 2))))) := by
     intro m
     induction m with
     | zero =>
       intro p d hp hd
       rw [remS_end (by omega), List.drop_eq_nil_of_le (by omega)]
       simp only [dep, ATr.trs, Tr.depths, Prod.mk.injEq]
       omega
     | succ m ihm =>
       intro p d hp hd
       rw [remS_step (by omega), dep_append]
       obtain ⟨i, hi | hi⟩ : ∃ i, p = 2 * i ∨ p = 2 * i + 1 := ⟨p / 2, by omega⟩
       · subst hi
         by_cases hk1 : i < a.cs.length
         · rw [hev_kid hk1, ih a.cs[i] (by have := ATr.weight_kid hk1; omega), ihm _ _ (by omega) (by omega), show (2 * i + 1 + 1) / 2 = i + 1 by omega, show (2 * i + 1) / 2 = i by omega, List.drop_eq_getElem_cons hk1]
           have hm : ((max (a.cs[i].tr.depth) (Tr.depths (ATr.trs (a.cs.drop (i + 1)))) : Nat) : Int) = max (a.cs[i].tr.depth : Int) (Tr.depths (ATr.trs (a.cs.drop (i + 1))) : Int) := by omega
           simp only [ATr.trs, Tr.depths, Prod.mk.injEq, true_and, hm]
           generalize (a.cs[i].tr.depth : Int) = x
           generalize (Tr.depths (ATr.trs (a.cs.drop (i + 1))) : Int) = y
           omega
         · rw [hev_nokid hk1]
           show dep (c + 1, d) (remS (a, 2 * i + 1)) = _
           rw [ihm _ _ (by omega) hd, List.drop_eq_nil_of_le (by omega), List.drop_eq_nil_of_le (by omega)]
       · subst hi
         have hh : dep (c + 1, d) (hev a (ATr.evss a.cs) (2 * i + 1)) = (c + 1, d) := by
           by_cases hk1 : i < a.ks.length
           · rw [hev_key hk1]; rfl
           · rw [hev_nokey hk1]; rfl
         rw [hh, ihm _ _ (by omega) hd, show (2 * i + 1 + 1 + 1) / 2 = i + 1 by omega, show (2 * i + 1 + 1) / 2 = i + 1 by omega]
   rw [evs_eq]
   show dep (c + 1, max d (c + 1)) (remS (a, 0)) = _
   rw [hrem _ 0 _ rfl (by omega)]
   have hd : (a.tr.depth : Int) = (Tr.depths (ATr.trs a.cs) : Int) + 1 := by cases a; simp [ATr.tr, Tr.depth, ATr.cs]
   simp only [List.drop_zero, Nat.zero_add, show (1 : Nat) / 2 = 0 by omega, Prod.mk.injEq, true_and]
   omega
theorem fins_evs (a : ATr) : (fins a.evs : Int) = begs a.evs := by
 -- from the depth: one ends where one began
 have h1 : ∀ (l : List Step) (s : Int × Int), (dep s l).1 = s.1 + begs l - fins l := by
   intro l
   induction l with
   | nil => intro s; simp [dep, begs, fins]
   | cons x r ih => intro s; cases x <;> simp only [dep, begs, fins, ih] <;> omega
 have h2 := h1 a.evs (0, 0)
 rw [dep_evs a.weight a (Nat.le_refl _)] at h2
 simp only at h2
 omega
end Go.Proofs.Ytananonjomfpkaa
/- The contract, over plain blocks, of the program's DepthOf. -/
namespace Go.Proofs.Ytananonjomfpkaa
open Go.RowKit
attribute [local go_sem] Oper.semAt_some
set_option maxRecDepth 100000 in
set_option maxHeartbeats 4000000 in
theorem impl_depth_a {w' : World} {kv cv : Value} {t : Tr} (ht' : TreeA w' kv cv t) (hwt : t.weight ≤ 1048576) :
   Calls Try.prog 47 #[.agg #[kv, cv]] w' fun e w'' => e = .returned (.int .i64 t.depth) ∧ Below w'.heap.size w' w'' := by
 obtain ⟨sA1, sA2, sA3, sA4, sA5, sA6, rfl, rfl⟩ := ht'.slices
 obtain ⟨W1, hW1⟩ : ∃ W1, W1 = w'.alloc (.cells #[.slice sA1 sA2 sA3, .slice sA4 sA5 sA6] 26) := ⟨_, rfl⟩
 have hs1 : W1.heap.size = w'.heap.size + 1 := by rw [hW1]; simp
 have hb1 : Below w'.heap.size w' W1 := by rw [hW1]; exact (Below.refl _ _).alloc (Nat.le_refl _) _
 have kb : W1.heap[w'.heap.size]? = some (.cells #[.slice sA1 sA2 sA3, .slice sA4 sA5 sA6] 26 (0, 0)) := by rw [hW1, new_blk]
 obtain ⟨a, ha1, ha2, ha3, ha4⟩ := (ht'.later hb1 (Nat.le_refl _)).at w'.heap.size 0 ⟨_, _, kb⟩ (box2 kb).1 (box2 kb).2.1
 have haw : a.weight ≤ 1048576 := by unfold ATr.weight; rw [ha3]; exact hwt
 have hit := steps_iter ha4 haw
 have had : a.addr = ⟨w'.heap.size, 0, none⟩ := by unfold ATr.addr; rw [ha1, ha2]
 rw [had] at hit
 have hcnt := begs_evs a
 rw [ha3] at hcnt
 have hcl : t.count ≤ 1048577 := by have := Tr.count_le t; omega
 have hfn := fins_evs a
 rw [hcnt] at hfn
 have hdp := dep_evs a.weight a (Nat.le_refl _) 0 0
 rw [ha3] at hdp
 have HFN := Lib.hid hfn
 have HDP := Lib.hid hdp
 clear hfn hdp
 have HIT := Lib.hid hit
 have HCNT := Lib.hid hcnt
 have HW1 := Lib.hid hW1
 have HB1 := Lib.hid hb1
 clear hit hcnt hW1 hb1 kb ht' ha1 ha2 ha3 ha4 haw had
 refine (callsIn_wide (n := 9)).1 (callsIn_of_wp_marks Try.func47 rfl trivial ?_ rfl)
 simp only [Try.ntmps47, List.size_toArray, List.length_cons, List.length_nil, Nat.reduceAdd, Nat.reduceSub, Array.replicate_succ, Array.replicate_zero, List.push_toArray, List.append_toArray, List.nil_append, List.cons_append]
 gi_wp2
 rw [← HW1.out]
 obtain ⟨W2, hW2⟩ : ∃ W2, W2 = (W1.alloc (.cells #[.int .i64 0] 3)).alloc (.cells #[.int .i64 0] 3) := ⟨_, rfl⟩
 rw [← hW2]
 have hs2 : W2.heap.size = w'.heap.size + 3 := by rw [hW2]; simp; omega
 have hk2 : ∀ K, Keep K W1 W2 := fun K => by rw [hW2]; exact (Keep.alloc K _ _).trans (Keep.alloc K _ _)
 have b2 : W2.heap[w'.heap.size + 1]? = some (.cells #[.int .i64 0] 3 (0, 0)) := by rw [hW2, old_blk _ _ _ (by simp; omega), ← hs1]; exact new_blk _ _
 have b3 : W2.heap[w'.heap.size + 2]? = some (.cells #[.int .i64 0] 3 (0, 0)) := by
   have h := new_blk (W1.alloc (.cells #[.int .i64 0] 3)) (.cells #[.int .i64 0] 3)
   rw [World.size_alloc, hs1] at h
   rw [hW2]; exact h
 have B3 := Lib.hid (And.intro b2 b3)
 clear hW2 b3 b2
 refine wp_loopA (fb := #[.pointer (some ⟨w'.heap.size, 0, none⟩)]) (lb := #[]) rfl (enters_of Try.func66 (by kernel_rfl) rfl) HIT.out (hk2 _) (fun x => by cases x <;> rfl)
   (fun k => k < W1.heap.size) (fun k h => h) (fun k h => by omega)
   (fun pre Pv W => ¬ Pv (w'.heap.size + 1) ∧ ¬ Pv (w'.heap.size + 2) ∧ W.heap[w'.heap.size + 1]? = some (.cells #[.int .i64 (dep (0, 0) pre).1] 3 (0, 0)) ∧ W.heap[w'.heap.size + 2]? = some (.cells #[.int .i64 (dep (0, 0) pre).2] 3 (0, 0)))
   (fun c pre Pv W => False)
   (fun pre Pv A Pv' B h hk hp => by
     obtain ⟨h1, h1', h2, h3⟩ := h
     have l2 := (Array.getElem?_eq_some_iff.1 h2).1
     have l3 := (Array.getElem?_eq_some_iff.1 h3).1
     refine ⟨fun h => ?_, fun h => ?_, (hk.block _ l2 h1).trans h2, (hk.block _ l3 h1').trans h3⟩
     · rcases hp _ h with h | h
       · exact h1 h
       · omega
     · rcases hp _ h with h | h
       · exact h1' h
       · omega)
   (fun c pre Pv A Pv' B h hk hp => h)
   ⟨by omega, by omega, B3.out.1, B3.out.2⟩
   (fun x a' Pv W => ∃ bx, ¬ Pv bx ∧ bx ≠ w'.heap.size + 1 ∧ bx ≠ w'.heap.size + 2 ∧ W.heap[bx]? = some (.cells #[.pointer (some x.node.addr), .int .i64 x.what, .int .i64 x.kk] 87 (0, 0)) ∧
     a' = { tmps := #[.agg #[.slice sA1 sA2 sA3, .slice sA4 sA5 sA6], .pointer (some ⟨w'.heap.size, 0, none⟩), .int .i64 0, .pointer (some ⟨w'.heap.size + 1, 0, none⟩), .pointer (some ⟨w'.heap.size + 2, 0, none⟩), .pointer (some ⟨bx, 0, none⟩), .func (.func 66) #[.pointer (some ⟨w'.heap.size, 0, none⟩)] #[], .agg #[.pointer (some x.node.addr), .int .i64 x.what, .int .i64 x.kk], undef, undef, undef, undef, undef, undef, undef, undef, undef, undef, undef, undef, undef, undef], defers := [] })
   (fun x a' Pv A B h hk => by
     obtain ⟨bx, h1, h2, h2', h3, h4⟩ := h
     exact ⟨bx, h1, h2, h2', (hk.block _ (Array.getElem?_eq_some_iff.1 h3).1 h1).trans h3, h4⟩)
   ?assign ?body ?done ?stop
 case assign =>
   intro l m pre x Pv W hI hbnd
   rw [Step.enc_eq]
   have hI' := Lib.hid hI
   have HB := Lib.hid hbnd
   clear hI hbnd
   gi_wp2
   have hlt := (Array.getElem?_eq_some_iff.1 hI'.out.2.2.1).1
   have hlt' := (Array.getElem?_eq_some_iff.1 hI'.out.2.2.2).1
   refine ⟨Keep.alloc _ _ _, ⟨hI'.out.1, hI'.out.2.1, (old_blk _ _ _ hlt).trans hI'.out.2.2.1, (old_blk _ _ _ hlt').trans hI'.out.2.2.2⟩, W.heap.size, fun h => ?_, by omega, by omega, new_blk _ _, rfl⟩
   have := HB.out _ h
   omega
 case body =>
   rintro l m pre x a' Pv W ⟨h1, h1', h2, h3⟩ ⟨bx, h4, h5', h6, h7, rfl⟩ hkW hsub hbnd hp
   have c2 : W.cell? ⟨bx, 1, none⟩ = some (.int .i64 x.what) := by simp [World.cell?, h7]
   have hnx : dep (0, 0) (pre ++ [x]) = dep (dep (0, 0) pre) [x] := dep_append _ _ _
   have hbd := dep_bounds pre (0, 0)
   have hle : begs pre ≤ 1048577 ∧ fins pre ≤ 1048577 := by
     obtain ⟨r, hr⟩ := hp
     have e1 := HCNT.out
     have e2 := HFN.out
     rw [← hr, begs_append, begs_append] at e1
     rw [← hr, fins_append, fins_append] at e2
     omega
   obtain ⟨⟨c, e⟩, hce⟩ : ∃ s, s = dep (0, 0) pre := ⟨_, rfl⟩
   rw [← hce] at h2 h3 hnx hbd
   simp only at h2 h3 hbd
   have hc1 : -1048577 ≤ c := by omega
   have hc2 : c ≤ 1048577 := by omega
   have he1 : 0 ≤ e := by omega
   have he2 : e ≤ 1048577 := by omega
   obtain ⟨d1, f1⟩ := box1 h2
   obtain ⟨d2, f2⟩ := box1 h3
   have HNX := Lib.hid hnx
   have H23 := Lib.hid (And.intro h2 h3)
   clear hnx h2 h3 h7 hp hsub hbnd hkW hce hbd hle
   cases x with
   | beg b =>
     have hb : dep (0, 0) (pre ++ [Step.beg b]) = (c + 1, max e (c + 1)) := by rw [HNX.out]; rfl
     have HBB := Lib.hid hb
     have d2' : (W.setCell ⟨w'.heap.size + 1, 0, none⟩ (.int .i64 (c + 1))).cell? ⟨w'.heap.size + 2, 0, none⟩ = some (.int .i64 e) := (cell_of_blk (set_other _ _ _ _ _ (by omega))).trans d2
     clear hb
     dsimp only [Step.what] at c2
     have fin : ∀ q : Int, q = max e (c + 1) → bodyEnds (fun pre Pv W => ¬ Pv (w'.heap.size + 1) ∧ ¬ Pv (w'.heap.size + 2) ∧ W.heap[w'.heap.size + 1]? = some (.cells #[.int .i64 (dep (0, 0) pre).1] 3 (0, 0)) ∧ W.heap[w'.heap.size + 2]? = some (.cells #[.int .i64 (dep (0, 0) pre).2] 3 (0, 0))) (fun c pre Pv W => False) (pre ++ [Step.beg b]) Pv W .normal { tmps := #[], defers := [] }
         ((W.setCell ⟨w'.heap.size + 1, 0, none⟩ (.int .i64 (c + 1))).setCell ⟨w'.heap.size + 2, 0, none⟩ (.int .i64 q)) := fun q hq => by
       refine ⟨(Keep.setCell _ _ _ _ h1).trans (Keep.setCell _ _ _ _ h1'), h1, h1', ?_, ?_⟩
       · rw [HBB.out, set_other _ _ _ _ _ (by omega)]; exact set_blk _ H23.out.1
       · rw [HBB.out, hq]; exact set_blk _ ((set_other _ _ _ _ _ (by omega)).trans H23.out.2)
     have FIN := Lib.hid fin
     clear fin
     rcases Int.lt_or_le e (c + 1) with hlt | hge
     · gi_wp2
       exact FIN.out (c + 1) (by omega)
     · gi_wp2
       exact FIN.out e (by omega)
   | key b k =>
     have hb : dep (0, 0) (pre ++ [Step.key b k]) = (c, e) := by rw [HNX.out]; rfl
     have HBB := Lib.hid hb
     clear hb
     dsimp only [Step.what] at c2
     gi_wp2
     refine ⟨Keep.refl _ _, h1, h1', ?_, ?_⟩
     · rw [HBB.out]; exact H23.out.1
     · rw [HBB.out]; exact H23.out.2
   | fin b =>
     have hb : dep (0, 0) (pre ++ [Step.fin b]) = (c - 1, e) := by rw [HNX.out]; rfl
     have HBB := Lib.hid hb
     clear hb
     dsimp only [Step.what] at c2
     gi_wp2
     refine ⟨Keep.setCell _ _ _ _ h1, h1, h1', ?_, ?_⟩
     · rw [HBB.out]; exact set_blk _ H23.out.1
     · rw [HBB.out, set_other _ _ _ _ _ (by omega)]; exact H23.out.2
 case done =>
   intro W3 hk3 hI hlt hD
   obtain ⟨h1, h1', h2, h3⟩ := hI
   rw [HDP.out] at h3
   have hmx : max (0 : Int) (0 + (t.depth : Int)) = t.depth := by omega
   simp only [hmx] at h3
   obtain ⟨c1, f1⟩ := box1 h3
   rw [hs2] at hD
   have HD := Lib.hid hD
   clear h2 h3 hD hmx
   gi_wp2
   refine ⟨by simp, .inl ⟨_, _, rfl, run_takeDeferred HD.out, ?_⟩⟩
   refine ⟨_, results_tmp rfl _ _ _, rfl, ?_⟩
   have hk5 : Keep (fun k => k < W1.heap.size) W3 (W3.putObj (w'.heap.size + 3) (.deferred none)) := Keep.putObj _ _ _ _ (by omega)
   exact HB1.out.trans ((((hk2 _).trans hk3).trans hk5).below (B := w'.heap.size) (by omega) (fun k h => by omega))
 case stop =>
   rintro c pre' W3 hk3 hp h hlt hD
   exact h.elim
end Go.Proofs.Ytananonjomfpkaa
/- Inserting: how many nodes, how deep, how many splits: plain data. -/
namespace Go.Proofs.Ytananonjomfpkaa
open Go.RowKit
namespace Tr
theorem counts_take_drop (c : List Tr) (i : Nat) : counts (c.take i) + counts (c.drop i) = counts c := by
 rw [← counts_append, List.take_append_drop]
theorem counts_at (c : List Tr) (i : Nat) (h : i < c.length) : counts (c.take i) + c[i].count + counts (c.drop (i + 1)) = counts c := by
 have h1 := counts_take_drop c i
 rw [List.drop_eq_getElem_cons h] at h1
 simp only [counts] at h1
 omega
end Tr
end Go.Proofs.Ytananonjomfpkaa
/- Deleting: how many nodes are left: plain data. -/
namespace Go.Proofs.Ytananonjomfpkaa
open Go.RowKit
namespace Tr
theorem last_kid {c : List Tr} {n : Nat} (h : c.length = n + 1) : counts (c.take n) + (kidAt c n).count = counts c := by
 have h1 := counts_at c n (by omega)
 rw [kidAt_get (by omega)]
 rw [List.drop_eq_nil_of_le (by omega)] at h1
 simp only [counts] at h1
 omega
theorem mended_count {k : List Int} {c : List Tr} {j : Nat} (hj : j + 1 < c.length) (hp : Pair (kidAt c j) (kidAt c (j + 1))) :
   (0 < (kidAt c j).ks.length → (ahead k c j).count = (Tr.mk k c).count) ∧ (0 < (kidAt c (j + 1)).ks.length → (behind k c j).count = (Tr.mk k c).count) ∧ (joined k c j).count + 1 = (Tr.mk k c).count := by
 obtain ⟨A, x, y, B, rfl, rfl⟩ := two_mid hj
 rw [kidAt_mid, kidAt_mid1] at hp ⊢
 refine ⟨fun h0 => ?_, fun h0 => ?_, ?_⟩
 · rw [ahead_mid _ _ _ _ _ h0]
   obtain ⟨kx, cx⟩ := x
   obtain ⟨ky, cy⟩ := y
   simp only [ks, cs] at h0 hp ⊢
   simp only [count, counts_append, counts]
   unfold oneFirst
   rcases hp with ⟨h1, h2⟩ | ⟨h1, h2⟩
   · simp only [ks, cs] at h1 h2
     obtain rfl : cx = [] := List.length_eq_zero_iff.1 h1
     simp [counts]
   · simp only [ks, cs] at h1 h2
     rw [if_neg (by omega)]
     have := last_kid h1
     simp only [counts]
     omega
 · rw [behind_mid]
   obtain ⟨kx, cx⟩ := x
   obtain ⟨ky, cy⟩ := y
   simp only [ks, cs] at h0 hp ⊢
   simp only [count, counts_append, counts]
   unfold oneMore
   rcases hp with ⟨h1, h2⟩ | ⟨h1, h2⟩
   · simp only [ks, cs] at h1 h2
     obtain rfl : cy = [] := List.length_eq_zero_iff.1 h2
     simp [counts]
   · simp only [ks, cs] at h1 h2
     rw [if_neg (by omega)]
     match cy, h2 with
     | u :: r, _ =>
       simp only [counts_append, counts, List.drop_succ_cons, List.drop_zero, kidAt, List.getD_cons_zero]
       omega
 · rw [joined_mid]
   obtain ⟨kx, cx⟩ := x
   obtain ⟨ky, cy⟩ := y
   simp only [ks, cs, count, counts_append, counts]
   omega
theorem repair_count {half : Int} (hh : 0 ≤ half) {k : List Int} {c : List Tr} {i b j : Nat} (hc : c.length = k.length + 1) (hk : 1 ≤ k.length) (hi : i < c.length) (hp : ∀ j, j + 1 < c.length → Pair (kidAt c j) (kidAt c (j + 1))) :
   (repair half k c i b j).t.count + (repair half k c i b j).j = (Tr.mk k c).count + j := by
 by_cases hle : half ≤ ((kidAt c i).ks.length : Int)
 · rw [repair_none (by omega)]
 · rw [repair_eq (by omega)]
   dsimp only
   unfold mend mended
   by_cases h1 : 0 < i ∧ half < ((kidAt c (i - 1)).ks.length : Int)
   · rw [if_pos h1]
     have h2 := mended_count (k := k) (c := c) (j := i - 1) (by omega) (hp _ (by omega))
     have h3 := h2.1 (by omega)
     simp only [if_true]
     simp
     exact h3
   · rw [if_neg h1]
     by_cases h2 : i + 1 < c.length ∧ half < ((kidAt c (i + 1)).ks.length : Int)
     · rw [if_pos h2]
       have h3 := mended_count (k := k) (c := c) (j := i) h2.1 (hp _ h2.1)
       have h4 := h3.2.1 (by omega)
       simp
       exact h4
     · rw [if_neg h2]
       by_cases h3 : 0 < i
       · rw [if_pos h3]
         have h4 := (mended_count (k := k) (c := c) (j := i - 1) (by omega) (hp _ (by omega))).2.2
         simp
         omega
       · rw [if_neg h3]
         have h4 : i + 1 < c.length := by omega
         have h5 := (mended_count (k := k) (c := c) (j := i) h4 (hp _ h4)).2.2
         simp
         omega
theorem del_nodes {wide : Int} (hw : 2 ≤ wide) : ∀ (n : Nat) (key : Int) (least d : Int) (t : Tr), t.weight < n → nodesB wide least d t = true → Lacks key t →
   (del (wide / 2) n key t).t.count + (del (wide / 2) n key t).j = t.count := by
 intro n
 induction n with
 | zero => intro key least d t h; omega
 | succ n ih =>
   rintro key least d ⟨k, c⟩ hn hnode hl
   obtain ⟨hsz, hsh⟩ := nodes_mem hnode
   by_cases h0 : c.length = 0
   · obtain rfl : c = [] := List.length_eq_zero_iff.1 h0
     rw [del_leaf h0]
     rfl
   · obtain ⟨hc, hk1, hi, hlx⟩ := hl.kid h0
     rcases hsh with ⟨h, _⟩ | ⟨_, hd, _, _, hkids⟩
     · exact absurd h h0
     obtain ⟨i, hie⟩ : ∃ i, i = place key k := ⟨_, rfl⟩
     rw [← hie] at hi hlx
     have hki := kidAt_get hi
     have hwk := weight_get_le c i hi
     simp only [weight] at hn
     have hnk : nodesB wide (wide / 2) (d - 1) (kidAt c i) = true := by rw [hki]; exact hkids _ (List.getElem_mem hi)
     have hwt : (kidAt c i).weight < n := by rw [hki]; omega
     have hoth : ∀ u m, m < (setKid c i u).length → m ≠ i → nodesB wide (wide / 2) (d - 1) (kidAt (setKid c i u) m) = true := fun u m hm e => by
       rw [setKid_eq hi, List.length_set] at hm
       rw [kidAt_set hi, if_neg e, kidAt_get hm]
       exact hkids _ (List.getElem_mem hm)
     have hlen : ∀ u, (setKid c i u).length = c.length := fun u => by rw [setKid_eq hi, List.length_set]
     have hpair : ∀ u, Under wide (wide / 2) (d - 1) u → ∀ q, q + 1 < (setKid c i u).length → Pair (kidAt (setKid c i u) q) (kidAt (setKid c i u) (q + 1)) := fun u hu q hq => by
       have hun : ∀ m, m < (setKid c i u).length → Under wide (wide / 2) (d - 1) (kidAt (setKid c i u) m) := fun m hm => by
         by_cases e : m = i
         · rw [kidAt_set hi, if_pos e]; exact hu
         · exact Under.of_nodes (hoth u m hm e)
       exact (hun q (by omega)).pair (hun (q + 1) hq)
     have hhalf : (0 : Int) ≤ wide / 2 := by omega
     have hcnt : ∀ (k' : List Int) (u : Tr), (Tr.mk k' (setKid c i u)).count + (kidAt c i).count = (Tr.mk k c).count + u.count := fun k' u => by
       have h1 := counts_at c i hi
       rw [hki]
       simp only [setKid, count, counts_append, counts]
       omega
     by_cases ho : ownKey key k
     · rw [if_pos ho] at hlx
       have hu := (del_facts hw n _ (wide / 2) (d - 1) (kidAt c i) hwt hnk hlx).1
       have hi1 := ih _ (wide / 2) (d - 1) (kidAt c i) hwt hnk hlx
       rw [del_hit h0 ho, ← hie]
       have hr := repair_count (b := (del (wide / 2) n (kidAt c i).greatest (kidAt c i)).b) (j := (del (wide / 2) n (kidAt c i).greatest (kidAt c i)).j) (k := k.set i (kidAt c i).greatest) hhalf (by rw [hlen, List.length_set]; exact hc) (by rw [List.length_set]; exact hk1) (i := i) (by rw [hlen]; exact hi) (hpair _ hu)
       have hcn := hcnt (k.set i (kidAt c i).greatest) (del (wide / 2) n (kidAt c i).greatest (kidAt c i)).t
       omega
     · rw [if_neg ho] at hlx
       have hu := (del_facts hw n _ (wide / 2) (d - 1) (kidAt c i) hwt hnk hlx).1
       have hi1 := ih _ (wide / 2) (d - 1) (kidAt c i) hwt hnk hlx
       rw [del_miss h0 ho, ← hie]
       have hr := repair_count (b := (del (wide / 2) n key (kidAt c i)).b) (j := (del (wide / 2) n key (kidAt c i)).j) (k := k) hhalf (by rw [hlen]; exact hc) hk1 (i := i) (by rw [hlen]; exact hi) (hpair _ hu)
       have hcn := hcnt k (del (wide / 2) n key (kidAt c i)).t
       omega
theorem delT_nodes {wide key : Int} {t : Tr} (h : lacksB wide key t = true) :
   (delT wide key t).count + (del (wide / 2) (t.weight + 1) key t).j + (if delShrinks wide key t then 1 else 0) = t.count := by
 unfold lacksB at h
 obtain ⟨hv, hp⟩ := Bool.and_eq_true_iff.1 h
 have hwide := valid_wide hv
 have hl := Lacks.of_tops (valid_well hv) (Tops.of_valid hv hwide.1) hp
 unfold validB at hv
 obtain ⟨-, hv2⟩ := Bool.and_eq_true_iff.1 hv
 obtain ⟨hv3, -⟩ := Bool.and_eq_true_iff.1 hv2
 have hu := (del_facts hwide.1 (t.weight + 1) key 0 t.depth t (by omega) hv3 hl).1
 have hc := del_nodes hwide.1 (t.weight + 1) key 0 t.depth t (by omega) hv3 hl
 unfold delT delShrinks
 obtain ⟨D, hD⟩ : ∃ D, D = del (wide / 2) (t.weight + 1) key t := ⟨_, rfl⟩
 rw [← hD] at hu hc ⊢
 dsimp only
 by_cases hs : D.t.ks.length = 0 ∧ D.t.cs.length ≠ 0
 · rw [if_pos hs, if_pos (by simp [hs])]
   obtain ⟨dt, db, dj⟩ := D
   obtain ⟨dk, dc⟩ := dt
   simp only [ks, cs] at hs hc ⊢
   have hone : dc.length = 1 := by
     rcases hu.2 with h1 | h1
     · exact absurd h1.1 hs.2
     · have := h1.2.2.1; omega
   match dc, hone with
   | [u], _ =>
     simp only [count, counts, kidAt, List.getD_cons_zero] at hc ⊢
     omega
 · rw [if_neg hs, if_neg (by simpa using hs)]
   omega
theorem gone_nodes {wide : Int} {t : Tr} (h : validB wide t = true) (ks : List Int) : ∀ j, j ≤ ks.length →
   ∃ s : Nat, (gone wide t (ks.take j)).t.count + (gone wide t (ks.take j)).j + s = t.count ∧ (gone wide t (ks.take j)).t.depth + s = t.depth ∧ (gone wide t (ks.take j)).sh = decide (0 < s) := by
 intro j
 induction j with
 | zero => intro _; exact ⟨0, by simp [gone], by simp [gone], by simp [gone]⟩
 | succ j ih =>
   intro hj
   obtain ⟨s, h1, h2, h3⟩ := ih (by omega)
   have hv := (gone_valid h ks j (by omega)).1
   rw [gone_snoc wide t (by omega)]
   generalize gone wide t (ks.take j) = S at h1 h2 h3 hv
   generalize ks.getD j 0 = k
   unfold takeKey
   by_cases hp : (S.t.path k).2 = true
   · rw [if_pos hp]
     have hl : lacksB wide k S.t = true := by unfold lacksB; rw [hv, hp]; rfl
     have hn := delT_nodes hl
     have hd := (delT_facts hl).2.2
     refine ⟨s + (if delShrinks wide k S.t then 1 else 0), ?_, ?_, ?_⟩
     · show (delT wide k S.t).count + (S.j + _) + _ = _
       omega
     · show (delT wide k S.t).depth + _ = _
       split at hd <;> rename_i hs <;> simp only [hs] <;> simp <;> omega
     · show (S.sh || delShrinks wide k S.t) = _
       rw [h3]
       cases hs : delShrinks wide k S.t <;> simp
   · rw [if_neg hp]
     exact ⟨s, h1, h2, h3⟩
theorem joins_facts {wide : Int} {t : Tr} {ks : List Int} (h : askAll wide t ks = true) :
   ∃ s : Nat, (goneT wide t ks).count + (gone wide t ks).j + s = t.count ∧ (goneT wide t ks).depth + s = t.depth ∧ (gone wide t ks).sh = decide (0 < s) := by
 have h' := h
 simp only [askAll, Bool.and_eq_true] at h'
 have e : goneT wide t ks = (gone wide t ks).t := by simp [goneT, h]
 have := gone_nodes h'.1 ks ks.length (Nat.le_refl _)
 rw [List.take_length] at this
 rw [e]
 exact this
end Tr
end Go.Proofs.Ytananonjomfpkaa

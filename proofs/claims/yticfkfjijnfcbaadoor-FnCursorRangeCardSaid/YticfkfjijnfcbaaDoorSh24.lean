/- Bytes that came in, as a slice in memory. -/
import Derived.Test.YticfkfjijnfcbaaDoorProg
import Derived.Test.YticfkfjijnfcbaaDoorSh0
import Derived.Test.YticfkfjijnfcbaaDoorSh1
import Derived.Test.YticfkfjijnfcbaaDoorSh3
import Derived.Test.YticfkfjijnfcbaaDoorSh18
import Derived.Test.YticfkfjijnfcbaaDoorSh22
import Derived.Test.YticfkfjijnfcbaaDoorIter
import Derived.Test.YticfkfjijnfcbaaDoorSteps
import Derived.Test.YticfkfjijnfcbaaDoorKeys
import Derived.Test.YticfkfjijnfcbaaDoorPlant
import Derived.Maps.OwnIn
import Derived.RangeFuncNested
import Derived.Shelf.RegionOpen
import Derived.WalkKit
import Derived.OwnWalkIn
import Derived.TacticsInMore
import Derived.Test.YticfkfjijnfcbaaDoorSh7
import Derived.Test.YticfkfjijnfcbaaDoorSh11
import Derived.Test.YticfkfjijnfcbaaDoorCurWalk
import Derived.Test.YticfkfjijnfcbaaDoorSh12
import Derived.Test.YticfkfjijnfcbaaDoorSh8
import Derived.Test.YticfkfjijnfcbaaDoorSh10
import Derived.Test.YticfkfjijnfcbaaDoorWalk
import Derived.Test.YticfkfjijnfcbaaDoorSh19
import Derived.ProofKit
import Derived.OpenShut
import Derived.ChangeOld
import Derived.Below

/- What the loops over steps need: a step's cells; how many steps of a kind a tree has. -/
namespace Go.Proofs.YticfkfjijnfcbaaDoor
open Go.RowKit

def Step.node : Step → ATr
  | .beg a => a
  | .key a _ => a
  | .fin a => a
def Step.what : Step → Int
  | .beg _ => 0
  | .key _ _ => 1
  | .fin _ => 2
def Step.kk : Step → Int
  | .beg _ => 0
  | .key _ k => k
  | .fin _ => 0
theorem Step.enc_eq (x : Step) : x.enc = #[.agg #[.pointer (some x.node.addr), .int .i64 x.what, .int .i64 x.kk]] := by cases x <;> rfl

/-- A property of lists of steps that adds up, said of a whole tree. -/
theorem evs_sum (f : List Step → Nat) (h0 : f [] = 0) (happ : ∀ a b, f (a ++ b) = f a + f b) (hk : ∀ a k, f [.key a k] = 0) (he : ∀ a, f [.fin a] = 0) (F : Tr → Nat) (Fs : List Tr → Nat)
    (hFs0 : Fs [] = 0) (hFs : ∀ t r, Fs (t :: r) = F t + Fs r) (hF : ∀ a : ATr, F a.tr = f [.beg a] + Fs (ATr.trs a.cs)) :
    ∀ n (a : ATr), a.weight ≤ n → f a.evs = F a.tr := by
  intro n
  induction n with
  | zero =>
    intro a ha
    have hc : a.cs.length = 0 := by have := ATr.ks_le a; omega
    have hk0 : a.ks.length = 0 := by have := ATr.ks_le a; omega
    rw [evs_eq, remS_end (by omega), hF, List.length_eq_zero_iff.1 hc]
    have : f [.beg a, .fin a] = f [.beg a] + f [.fin a] := happ [.beg a] [.fin a]
    rw [this, he, ATr.trs, hFs0]
  | succ n ih =>
    intro a ha
    -- the steps from place p on
    have hrem : ∀ m p, 2 * max a.cs.length a.ks.length - p = m → f (remS (a, p)) = Fs (ATr.trs (a.cs.drop ((p + 1) / 2))) := by
      intro m
      induction m with
      | zero =>
        intro p hp
        rw [remS_end (by omega), he, List.drop_eq_nil_of_le (by omega), ATr.trs, hFs0]
      | succ m ihm =>
        intro p hp
        rw [remS_step (by omega), happ, ihm (p + 1) (by omega)]
        obtain ⟨i, hi⟩ : ∃ i, p = 2 * i ∨ p = 2 * i + 1 := ⟨p / 2, by omega⟩
        rcases hi with hi | hi
        · subst hi
          rw [show (2 * i + 1 + 1) / 2 = i + 1 by omega, show (2 * i + 1) / 2 = i by omega]
          by_cases hk1 : i < a.cs.length
          · rw [hev_kid hk1, ih a.cs[i] (by have := ATr.weight_kid hk1; omega), List.drop_eq_getElem_cons hk1, ATr.trs, hFs]
          · rw [hev_nokid hk1, h0, List.drop_eq_nil_of_le (by omega), List.drop_eq_nil_of_le (by omega), ATr.trs, hFs0]
        · subst hi
          rw [show (2 * i + 1 + 1 + 1) / 2 = i + 1 by omega, show (2 * i + 1 + 1) / 2 = i + 1 by omega]
          by_cases hk1 : i < a.ks.length
          · rw [hev_key hk1, hk]; omega
          · rw [hev_nokey hk1, h0]; omega
    rw [evs_eq, hF]
    have : f (.beg a :: remS (a, 0)) = f [.beg a] + f (remS (a, 0)) := happ [.beg a] (remS (a, 0))
    rw [this, hrem _ 0 rfl]
    simp

/-- How many nodes begin. -/
def begs : List Step → Nat
  | [] => 0
  | .beg _ :: r => begs r + 1
  | .key _ _ :: r => begs r
  | .fin _ :: r => begs r
theorem begs_append (a b : List Step) : begs (a ++ b) = begs a + begs b := by
  induction a with
  | nil => simp [begs]
  | cons x r ih => cases x <;> simp [begs, ih] <;> omega
theorem begs_evs (a : ATr) : begs a.evs = a.tr.count := by
  refine evs_sum begs rfl begs_append (fun _ _ => rfl) (fun _ => rfl) Tr.count Tr.counts rfl (fun _ _ => rfl) (fun a => ?_) a.weight a (Nat.le_refl _)
  cases a; simp [ATr.tr, Tr.count, begs, ATr.cs]

/-- How many nodes with just so many keys begin. -/
def fullBegs (n : Int) : List Step → Nat
  | [] => 0
  | .beg a :: r => fullBegs n r + (if (a.ks.length : Int) = n then 1 else 0)
  | .key _ _ :: r => fullBegs n r
  | .fin _ :: r => fullBegs n r
theorem fullBegs_append (n : Int) (a b : List Step) : fullBegs n (a ++ b) = fullBegs n a + fullBegs n b := by
  induction a with
  | nil => simp [fullBegs]
  | cons x r ih => cases x <;> simp [fullBegs, ih] <;> omega
theorem fullBegs_evs (n : Int) (a : ATr) : fullBegs n a.evs = a.tr.full n := by
  refine evs_sum (fullBegs n) rfl (fullBegs_append n) (fun _ _ => rfl) (fun _ => rfl) (Tr.full n) (Tr.fulls n) rfl (fun _ _ => rfl) (fun a => ?_) a.weight a (Nat.le_refl _)
  cases a with
  | mk nb no k c =>
    show (if (k.length : Int) = n then 1 else 0) + Tr.fulls n (ATr.trs c) = (0 + (if (k.length : Int) = n then 1 else 0)) + Tr.fulls n (ATr.trs c)
    rw [Nat.zero_add]

/-- The keys among the steps. -/
def keysOf : List Step → List Int
  | [] => []
  | .beg _ :: r => keysOf r
  | .key _ k :: r => k :: keysOf r
  | .fin _ :: r => keysOf r
theorem keysOf_append (a b : List Step) : keysOf (a ++ b) = keysOf a ++ keysOf b := by
  induction a with
  | nil => rfl
  | cons x r ih => cases x <;> simp [keysOf, ih]
end Go.Proofs.YticfkfjijnfcbaaDoor

/- The keys that one comes by are the keys in order. -/
namespace Go.Proofs.YticfkfjijnfcbaaDoor
open Go.RowKit

theorem keysOf_evs : ∀ n (a : ATr), a.weight ≤ n → keysOf a.evs = a.tr.keys := by
  intro n
  induction n with
  | zero =>
    intro a ha
    have hc : a.cs.length = 0 := by have := ATr.ks_le a; omega
    have hk0 : a.ks.length = 0 := by have := ATr.ks_le a; omega
    rw [evs_eq, remS_end (by omega)]
    cases a with
    | mk nb no k cs =>
      have e1 : cs = [] := List.length_eq_zero_iff.1 hc
      have e2 : k = [] := List.length_eq_zero_iff.1 hk0
      subst e1 e2; rfl
  | succ n ih =>
    intro a ha
    have hlen : (Tr.keyss (ATr.trs a.cs)).length = a.cs.length := by rw [Tr.length_keyss, ATr.trs_length]
    have hkid : ∀ i, keysOf (hev a (ATr.evss a.cs) (2 * i)) = ((Tr.keyss (ATr.trs a.cs))[i]?).getD [] := fun i => by
      by_cases hk : i < a.cs.length
      · rw [hev_kid hk, ih a.cs[i] (by have := ATr.weight_kid hk; omega), Tr.keyss_get _ i (by rw [ATr.trs_length]; exact hk), ATr.trs_get a.cs i hk]; rfl
      · rw [hev_nokid hk, List.getElem?_eq_none (by omega)]; rfl
    have hkey : ∀ i, keysOf (hev a (ATr.evss a.cs) (2 * i + 1)) = (a.ks[i]?).toList := fun i => by
      by_cases hk : i < a.ks.length
      · rw [hev_key hk]; simp [keysOf, hk, List.getD_eq_getElem?_getD]
      · rw [hev_nokey hk, List.getElem?_eq_none (by omega)]; rfl
    have hrem : ∀ m i, max a.cs.length a.ks.length - i = m → keysOf (remS (a, 2 * i)) = (List.range' i m).flatMap (Tr.part (Tr.keyss (ATr.trs a.cs)) a.ks) := by
      intro m
      induction m with
      | zero => intro i hi; rw [remS_end (by omega)]; rfl
      | succ m ihm =>
        intro i hi
        rw [remS_step (by omega), remS_step (p := 2 * i + 1) (by omega), show 2 * i + 1 + 1 = 2 * (i + 1) by omega, keysOf_append, keysOf_append, hkid, hkey, ihm (i + 1) (by omega), List.range'_succ, List.flatMap_cons, Tr.part, List.append_assoc]
    rw [evs_eq]
    show keysOf (remS (a, 2 * 0)) = _
    rw [hrem _ 0 rfl]
    cases a with
    | mk nb no k cs =>
      simp only [ATr.tr, Tr.keys, Tr.upto, ATr.cs, ATr.ks, Nat.sub_zero]
      rw [List.range_eq_range', ATr.trs_length, Nat.max_comm]
end Go.Proofs.YticfkfjijnfcbaaDoor

/- The contract, over plain blocks, of the program's KeysOf. -/
namespace Go.Proofs.YticfkfjijnfcbaaDoor
open Go.RowKit
attribute [local go_sem] Oper.semAt_some

theorem ownsRow_keepA {w w' : World} {base : Nat} {e : TypeId} {size n : Nat} {v : Value} {xs : List Value} (h : w.ownsRow base e size v n xs) (hb : ∀ k, v.ownBlock = some k → w'.heap[k]? = w.heap[k]?) : w'.ownsRow base e size v n xs := by
  obtain ⟨h1, h2 | ⟨g, cap, cur, hv, hbb, hg, hr⟩⟩ := h
  · exact ⟨h1, .inl h2⟩
  · exact ⟨h1, .inr ⟨g, cap, cur, hv, hbb, (hb g (by rw [hv]; rfl)).trans hg, hr⟩⟩

set_option maxRecDepth 100000 in
set_option maxHeartbeats 4000000 in
theorem impl_keys_a {w' : World} {kv cv : Value} {t : Tr} (ht' : TreeA w' kv cv t) (hwt : t.weight ≤ 1048576) :
    Calls Tryd.prog 36 #[.agg #[kv, cv]] w' fun e w'' => ∃ v, e = .returned v ∧ IntsOwn w'' w'.heap.size v (t.keys) ∧ Below w'.heap.size w' w'' := by
  obtain ⟨sA1, sA2, sA3, sA4, sA5, sA6, rfl, rfl⟩ := ht'.slices
  obtain ⟨W1, hW1⟩ : ∃ W1, W1 = w'.alloc (.cells #[.slice sA1 sA2 sA3, .slice sA4 sA5 sA6] 33) := ⟨_, rfl⟩
  have hs1 : W1.heap.size = w'.heap.size + 1 := by rw [hW1]; simp
  have hb1 : Below w'.heap.size w' W1 := by rw [hW1]; exact (Below.refl _ _).alloc (Nat.le_refl _) _
  have kb : W1.heap[w'.heap.size]? = some (.cells #[.slice sA1 sA2 sA3, .slice sA4 sA5 sA6] 33 (0, 0)) := by rw [hW1, new_blk]
  obtain ⟨a, ha1, ha2, ha3, ha4⟩ := (ht'.later hb1 (Nat.le_refl _)).at w'.heap.size 0 ⟨_, _, kb⟩ (box2 kb).1 (box2 kb).2.1
  have haw : a.weight ≤ 1048576 := by unfold ATr.weight; rw [ha3]; exact hwt
  have hit := steps_iter ha4 haw
  have had : a.addr = ⟨w'.heap.size, 0, none⟩ := by unfold ATr.addr; rw [ha1, ha2]
  rw [had] at hit
  have hcnt := keysOf_evs a.weight a (Nat.le_refl _)
  rw [ha3] at hcnt
  have hcl : t.keys.length ≤ 1048576 := by have := Tr.keys_length_le t; omega
  obtain ⟨i0, hi0, hz0, hz1, hz2⟩ := info_parts Tryd.appInfo
  have HIT := Lib.hid hit
  have HCNT := Lib.hid hcnt
  have HW1 := Lib.hid hW1
  have HB1 := Lib.hid hb1
  clear hit hcnt hW1 hb1 kb ht' ha1 ha2 ha3 ha4 haw had
  refine (callsIn_wide (n := 9)).1 (callsIn_of_wp_marks Tryd.func36 rfl trivial ?_ rfl)
  simp only [Tryd.ntmps36, List.size_toArray, List.length_cons, List.length_nil, Nat.reduceAdd, Nat.reduceSub, Array.replicate_succ, Array.replicate_zero, List.push_toArray, List.append_toArray, List.nil_append, List.cons_append]
  gi_wp2
  rw [← HW1.out]
  obtain ⟨W2, hW2⟩ : ∃ W2, W2 = W1.alloc (.cells #[.slice none 0 0] 22) := ⟨_, rfl⟩
  rw [← hW2]
  have hs2 : W2.heap.size = w'.heap.size + 2 := by rw [hW2]; simp; omega
  have hk2 : ∀ K, Keep K W1 W2 := fun K => by rw [hW2]; exact Keep.alloc K _ _
  have b3 : W2.heap[w'.heap.size + 1]? = some (.cells #[.slice none 0 0] 22 (0, 0)) := by rw [hW2, ← hs1]; exact new_blk _ _
  have B3 := Lib.hid b3
  clear hW2 b3
  refine wp_loopA (fb := #[.pointer (some ⟨w'.heap.size, 0, none⟩)]) (lb := #[]) rfl (enters_of Tryd.func79 (by kernel_rfl) rfl) HIT.out (hk2 _) (fun x => by cases x <;> rfl)
    (fun k => k < W1.heap.size) (fun k h => h) (fun k h => by omega)
    (fun pre Pv W => ¬ Pv (w'.heap.size + 1) ∧ ∃ v, W.heap[w'.heap.size + 1]? = some (.cells #[v] 22 (0, 0)) ∧ IntsOwn W (w'.heap.size + 2) v (keysOf pre) ∧ ∀ k, v.ownBlock = some k → ¬ Pv k)
    (fun c pre Pv W => False)
    (fun pre Pv A Pv' B h hk hp => by
      obtain ⟨h1, v, h2, h3, h4⟩ := h
      have l2 := (Array.getElem?_eq_some_iff.1 h2).1
      refine ⟨fun h => ?_, v, (hk.block _ l2 h1).trans h2, ownsRow_keepA h3 (fun k e => hk.block _ (h3.lt k e).2 (h4 k e)), fun k e h => ?_⟩
      · rcases hp _ h with h | h
        · exact h1 h
        · omega
      · rcases hp _ h with h | h
        · exact h4 k e h
        · have := (h3.lt k e).2; omega)
    (fun c pre Pv A Pv' B h hk hp => h)
    ⟨by omega, _, B3.out, ⟨rfl, .inl ⟨rfl, rfl⟩⟩, fun k e => by cases e⟩
    (fun x a' Pv W => ∃ bx, ¬ Pv bx ∧ bx ≠ w'.heap.size + 1 ∧ W.heap[bx]? = some (.cells #[.pointer (some x.node.addr), .int .i64 x.what, .int .i64 x.kk] 91 (0, 0)) ∧
      a' = { tmps := #[.agg #[.slice sA1 sA2 sA3, .slice sA4 sA5 sA6], .pointer (some ⟨w'.heap.size, 0, none⟩), .slice none 0 0, .pointer (some ⟨w'.heap.size + 1, 0, none⟩), .pointer (some ⟨bx, 0, none⟩), .func (.func 79) #[.pointer (some ⟨w'.heap.size, 0, none⟩)] #[], .agg #[.pointer (some x.node.addr), .int .i64 x.what, .int .i64 x.kk], undef, undef, undef, undef, undef, undef, undef, undef, undef], defers := [] })
    (fun x a' Pv A B h hk => by
      obtain ⟨bx, h1, h2, h3, h4⟩ := h
      exact ⟨bx, h1, h2, (hk.block _ (Array.getElem?_eq_some_iff.1 h3).1 h1).trans h3, h4⟩)
    ?assign ?body ?done ?stop
  case assign =>
    intro l m pre x Pv W hI hbnd
    rw [Step.enc_eq]
    obtain ⟨h1, v, h2, h3, h4⟩ := hI
    have HI' := Lib.hid (And.intro h2 (And.intro h3 h4))
    have HB := Lib.hid hbnd
    clear h2 h3 h4 hbnd
    gi_wp2
    have hlt := (Array.getElem?_eq_some_iff.1 HI'.out.1).1
    refine ⟨Keep.alloc _ _ _, ⟨h1, v, (old_blk _ _ _ hlt).trans HI'.out.1, IntsOwn.alloc' HI'.out.2.1 _, HI'.out.2.2⟩, W.heap.size, fun h => ?_, by omega, new_blk _ _, rfl⟩
    have := HB.out _ h
    omega
  case body =>
    rintro l m pre x a' Pv W ⟨h1, v, h2, h3, h4⟩ ⟨bx, h5', h6, h7, rfl⟩ hkW hsub hbnd hp
    obtain ⟨va, vc, rfl⟩ := IntsOwn.shown h3
    obtain ⟨c1, f1⟩ := box1 h2
    have c2 : W.cell? ⟨bx, 1, none⟩ = some (.int .i64 x.what) := by simp [World.cell?, h7]
    have c3 : W.cell? ⟨bx, 2, none⟩ = some (.int .i64 x.kk) := by simp [World.cell?, h7]
    have hle : (keysOf pre).length + (keysOf [x]).length ≤ 1048576 := by
      obtain ⟨r, hr⟩ := hp
      have := HCNT.out
      rw [← hr, keysOf_append, keysOf_append] at this
      have h := congrArg List.length this
      simp only [List.length_append] at h
      omega
    have hnx : keysOf (pre ++ [x]) = keysOf pre ++ keysOf [x] := keysOf_append _ _
    have hszW : w'.heap.size + 2 ≤ W.heap.size := by have := hkW.size; omega
    have HNX := Lib.hid hnx
    have HH := Lib.hid (And.intro h2 (And.intro h3 h4))
    have HBND := Lib.hid hbnd
    clear hnx h2 h3 h4 h7 hp hsub hbnd hkW
    cases x with
    | beg b =>
      have hb : keysOf (pre ++ [Step.beg b]) = keysOf pre := by rw [HNX.out]; simp [keysOf]
      have HBB := Lib.hid hb
      clear hb
      dsimp only [Step.what] at c2
      gi_wp2
      refine ⟨Keep.refl _ _, h1, _, HH.out.1, ?_, HH.out.2.2⟩
      rw [HBB.out]
      exact HH.out.2.1
    | fin b =>
      have hb : keysOf (pre ++ [Step.fin b]) = keysOf pre := by rw [HNX.out]; simp [keysOf]
      have HBB := Lib.hid hb
      clear hb
      dsimp only [Step.what] at c2
      gi_wp2
      refine ⟨Keep.refl _ _, h1, _, HH.out.1, ?_, HH.out.2.2⟩
      rw [HBB.out]
      exact HH.out.2.1
    | key b k =>
      have hb : keysOf (pre ++ [Step.key b k]) = keysOf pre ++ [k] := by rw [HNX.out]; rfl
      have HBB := Lib.hid hb
      have hle' : (keysOf pre).length + 1 ≤ 1048576 := hle
      clear hb hle
      dsimp only [Step.what] at c2
      dsimp only [Step.kk] at c3
      have hown : (W.alloc (.cells #[.int .i64 k] 3)).ownsRow (w'.heap.size + 2) 3 1 (.slice va (keysOf pre).length vc) (keysOf pre).length ((keysOf pre).map (Value.int .i64)) := IntsOwn.alloc' HH.out.2.1 _
      have hbase : w'.heap.size + 2 ≤ (W.alloc (.cells #[.int .i64 k] 3)).heap.size := by simp; omega
      have HOWN := Lib.hid hown
      have HBASE := Lib.hid hbase
      clear hown hbase
      gi_wp2_with (gi_at_builtin; refine wpListIn_append_own_at _ (by rfl) _ _ _ (by rfl) (w'.heap.size + 2) 3 i0 _ 1 8 Tryd.underlying22 hi0 hz0 hz1 hz2 rfl (by decide) (.slice va (keysOf pre).length vc) (keysOf pre).length ((keysOf pre).map (Value.int .i64)) (by rfl) HOWN.out ⟨W.heap.size, 0, none⟩ 1 1 [.int .i64 k] (by rfl) (by rfl) (World.news_of_block (cs := #[.int .i64 k]) (t := 3) (fr := (0, 0)) (heap_alloc_new W _)) (by simp [Value.oneCell']) (by unfold maxLen; omega) (by omega) HBASE.out ?_; intro v8 w8 hown8 hgrow8 hnil8 hat8; obtain ⟨g8, cap8, rfl, _, _⟩ := hown8.form (by omega); have c1' := (hgrow8.cell_far ⟨w'.heap.size + 1, 0, none⟩ (by simp; omega) (fun e => absurd (show w'.heap.size + 2 ≤ w'.heap.size + 1 from (HOWN.out.lt _ e.symm).1) (by omega))).trans ((cell_of_blk (old_blk _ _ _ (by omega))).trans c1); have f1' := (hgrow8.frozen_far ⟨w'.heap.size + 1, 0, none⟩ (by simp; omega) (fun e => absurd (show w'.heap.size + 2 ≤ w'.heap.size + 1 from (HOWN.out.lt _ e.symm).1) (by omega))).trans ((World.frozen?_of_block (w := W) (old_blk _ _ _ (show w'.heap.size + 1 < W.heap.size by omega))).trans f1); have H8 := Lib.hid (And.intro hown8 (And.intro hgrow8 hat8)); clear hown8 hgrow8 hat8 hnil8)
      have hs8 : W.heap.size + 1 ≤ w8.heap.size := by have := H8.out.2.1.size; simpa using this
      have hold : ∀ q, q < W.heap.size → (Value.slice va (keysOf pre).length vc).ownBlock ≠ some q → w8.heap[q]? = W.heap[q]? := fun q h1 h2 => by
        rw [H8.out.2.1.block q (by simp; omega) (fun e => h2 e.symm), old_blk _ _ _ h1]
      have hob : ∀ q, (Value.slice va (keysOf pre).length vc).ownBlock = some q → w'.heap.size + 2 ≤ q := fun q h => (HOWN.out.lt q h).1
      have hk8 : Keep Pv W w8 := ⟨H8.out.2.1.os, H8.out.2.1.tape, H8.out.2.1.output, by omega, fun q h1 h2 => hold q h1 (fun e => HH.out.2.2 q e h2)⟩
      refine ⟨hk8.trans (Keep.setCell _ _ _ _ h1), h1, _, set_blk (o := 0) _ ((hold _ (by omega) (fun e => by have := hob _ e; omega)).trans HH.out.1), ?_, fun q e h => ?_⟩
      · rw [HBB.out]
        unfold IntsOwn
        rw [List.length_append, List.map_append]
        exact ownsRow_same H8.out.1 (fun q _ hq => set_other _ _ _ _ _ (by omega))
      · simp only [Value.ownBlock, Option.some.injEq] at e
        subst e
        rcases H8.out.2.2 with h' | h'
        · exact HH.out.2.2 _ h'.symm h
        · simp only [Value.ownBlock, Option.some.injEq, World.size_alloc] at h'
          have := HBND.out _ h
          omega
  case done =>
    intro W3 hk3 hI hlt hD
    obtain ⟨h1, v, h2, h3, h4⟩ := hI
    rw [HCNT.out] at h3
    obtain ⟨va, vc, rfl⟩ := IntsOwn.shown h3
    obtain ⟨c1, f1⟩ := box1 h2
    rw [hs2] at hD
    have hD4 : ∀ q, (Value.slice va t.keys.length vc).ownBlock = some q → q ≠ w'.heap.size + 2 := fun q e e2 => h4 q e (.inr (.inl (by omega)))
    have HD := Lib.hid hD
    have HH := Lib.hid (And.intro h3 hD4)
    clear h2 h3 h4 hD hD4
    gi_wp2
    refine ⟨by simp, .inl ⟨_, _, rfl, run_takeDeferred HD.out, ?_⟩⟩
    refine ⟨_, results_tmp rfl _ _ _, _, rfl, ?_, ?_⟩
    · exact IntsOwn.lower (lo := w'.heap.size + 2) (ownsRow_keepA HH.out.1 (fun q e => World.putObj_heap_other (HH.out.2 q e))) (by omega)
    · have hk5 : Keep (fun k => k < W1.heap.size) W3 (W3.putObj (w'.heap.size + 2) (.deferred none)) := Keep.putObj _ _ _ _ (by omega)
      exact HB1.out.trans ((((hk2 _).trans hk3).trans hk5).below (B := w'.heap.size) (by omega) (fun k h => by omega))
  case stop =>
    rintro c pre' W3 hk3 hp h hlt hD
    exact h.elim
end Go.Proofs.YticfkfjijnfcbaaDoor

/- Cursors and ranks: where seeking comes to, that going on is seeking, that a cursor is told by its key: plain data. -/
namespace Go.Proofs.YticfkfjijnfcbaaDoor
open Go.RowKit
namespace Tr

theorem climb_cons (P : Nat → Bool) : ∀ n, climb P (n + 1) = if climb (fun i => P (i + 1)) n = 0 then (if P 0 then 1 else 0) else climb (fun i => P (i + 1)) n + 1
  | 0 => by simp [climb]
  | n + 1 => by
    rw [climb]
    by_cases h : P (n + 1) = true
    · rw [if_pos h, climb, if_pos h, if_neg (by omega)]
    · rw [if_neg h, climb_cons P n]
      have e : climb (fun i => P (i + 1)) (n + 1) = climb (fun i => P (i + 1)) n := by rw [climb, if_neg h]
      rw [e]

theorem lenAt_cons {k : List Int} {cs : List Tr} {i : Nat} (hi : i < cs.length) (p : List Int) : lenAt (.mk k cs) ((i : Int) :: p) = lenAt cs[i] p := by
  unfold lenAt
  rw [nodeTo, if_pos ⟨by omega, by omega⟩, Int.toNat_natCast, List.getD_eq_getElem?_getD, List.getElem?_eq_getElem hi]; rfl

theorem upF_cons {k : List Int} {cs : List Tr} {i : Nat} (hi : i < cs.length) (M : List Int) :
    upF (.mk k cs) ((i : Int) :: M) = if (upF cs[i] M).2.2 = true then ((i : Int) :: (upF cs[i] M).1, (upF cs[i] M).2.1, true) else if i < k.length then ([], (i : Int), true) else ([], 0, false) := by
  have hP : ∀ j, stopF (.mk k cs) ((i : Int) :: M) (j + 1) = stopF cs[i] M j := fun j => by
    unfold stopF
    rw [List.take_succ_cons, lenAt_cons hi, List.getD_cons_succ]
  have h0 : stopF (.mk k cs) ((i : Int) :: M) 0 = decide (i < k.length) := by
    unfold stopF lenAt
    simp [nodeTo, Tr.ks]
  unfold upF
  rw [List.length_cons, climb_cons, climb_congr (Q := stopF cs[i] M) M.length (fun j _ => hP j), h0]
  unfold upTo
  by_cases hz : climb (stopF cs[i] M) M.length = 0
  · rw [if_pos hz]
    simp only [hz, if_true]
    by_cases hk : i < k.length
    · simp [hk]
    · simp [hk]
  · rw [if_neg hz]
    obtain ⟨D, hD⟩ : ∃ D, climb (stopF cs[i] M) M.length = D + 1 := ⟨climb (stopF cs[i] M) M.length - 1, by omega⟩
    rw [hD]
    simp

theorem place_in {c : Int} : ∀ {a b : List Int}, place c a < a.length → place c (a ++ b) = place c a
  | [], _, h => by simp at h
  | x :: r, b, h => by
    simp only [place, List.cons_append, List.length_cons] at h ⊢
    split
    · rename_i hx
      rw [if_pos hx] at h
      rw [place_in (by omega)]
    · rfl
theorem place_all {c : Int} : ∀ {a : List Int}, ¬ place c a < a.length → ∀ x ∈ a, x < c → True := fun _ _ _ _ => trivial
theorem place_ahead {c : Int} {a : List Int} (hs : a.Pairwise (· < ·)) (h : ¬ place c a < a.length) : ∀ x ∈ a, x < c := by
  intro x hx
  obtain ⟨i, hi, rfl⟩ := List.getElem_of_mem hx
  have hle := place_le c a
  have := place_lt (c := c) (k := a) (i := i) (by omega)
  simpa [List.getD_eq_getElem?_getD, hi] using this

/-- Where one comes to, seeking. -/
theorem seek_key (c : Int) : ∀ (n : Nat) (t : Tr), t.weight ≤ n → Well t →
    (place c t.keys < t.keys.length → ∃ P A k cs, upF t (sink c t) = (P, ((A : Nat) : Int), true) ∧ nodeTo P t = some (.mk k cs) ∧ A < k.length ∧ k.getD A 0 = t.keys.getD (place c t.keys) 0) ∧
    (¬ place c t.keys < t.keys.length → upF t (sink c t) = ([], 0, false))
  | n, .mk k cs, hn, hw => by
    have hp := place_le c k
    by_cases h0 : cs.length = 0
    · rw [sink_leaf h0, keys_leaf h0]
      constructor
      · intro h
        refine ⟨[], place c k, k, cs, ?_, rfl, h, rfl⟩
        have := upF_stop (t := .mk k cs) (L := []) (x := (place c k : Int)) (by unfold lenAt; simp only [nodeTo, Tr.ks]; omega)
        simpa using this
      · intro h
        have := upF_skip (t := .mk k cs) (L := []) (M := [(place c k : Int)]) (fun i hi => by
          have : i = 0 := by simpa using hi
          subst this
          unfold stopF lenAt
          simp [nodeTo, Tr.ks]; omega)
        simpa [upF, upTo, climb] using this
    · have hcl := Well.inner hw h0
      have hi : place c k < cs.length := by omega
      have hwt := weight_get_le cs _ hi
      simp only [weight] at hn
      cases n with
      | zero => have := length_le_weights cs; omega
      | succ n =>
        obtain ⟨ih1, ih2⟩ := seek_key c n cs[place c k] (by omega) (hw.kid _ hi)
        obtain ⟨R, hkeys, hahead, hR⟩ := hw.split h0 c hi
        obtain ⟨U, hU⟩ : ∃ U, U = upto (keyss cs) k (place c k) := ⟨_, rfl⟩
        rw [← hU] at hkeys hahead
        rw [sink_inner hi, upF_cons hi, hkeys, place_append_lt hahead]
        by_cases hin : place c cs[place c k].keys < cs[place c k].keys.length
        · obtain ⟨P, A, k', cs', h1, h2, h3, h4⟩ := ih1 hin
          rw [h1, if_pos rfl, place_in hin]
          constructor
          · intro _
            refine ⟨(place c k : Int) :: P, A, k', cs', rfl, ?_, h3, ?_⟩
            · rw [nodeTo, if_pos ⟨by omega, by omega⟩, Int.toNat_natCast, List.getD_eq_getElem?_getD, List.getElem?_eq_getElem hi]; exact h2
            · rw [h4, getD_right (by omega), show U.length + place c cs[place c k].keys - U.length = place c cs[place c k].keys by omega, getD_left hin]
          · intro h
            exfalso
            simp only [List.length_append] at h
            omega
        · rw [ih2 hin]
          have hall := place_ahead (hw.kid _ hi).2 hin
          have hz : place c ((k[place c k]?).toList ++ R) = 0 := by
            have hb := behind_ge hR
            cases hl : (k[place c k]?).toList ++ R with
            | nil => rfl
            | cons x r => have := hb x r hl; simp only [place]; rw [if_neg (by omega)]
          rw [place_append_lt hall, hz, Nat.add_zero, if_neg (by simp)]
          by_cases hk : place c k < k.length
          · have e : (k[place c k]?).toList = [k.getD (place c k) 0] := by simp [hk, List.getD_eq_getElem?_getD]
            rw [if_pos hk, e]
            constructor
            · intro _
              refine ⟨[], place c k, k, cs, rfl, rfl, hk, ?_⟩
              rw [getD_right (by omega), show U.length + cs[place c k].keys.length - U.length = cs[place c k].keys.length by omega, getD_right (by omega), Nat.sub_self]; rfl
            · intro h
              exfalso
              simp only [List.length_append, List.length_singleton] at h
              omega
          · have e : (k[place c k]?).toList = [] := by rw [List.getElem?_eq_none (by omega)]; rfl
            rw [if_neg hk, e, hR (by omega)]
            constructor
            · intro h
              exfalso
              simp only [List.length_append, List.length_nil] at h
              omega
            · intro _; rfl

/-- The way to a key goes through the nodes that lead to it, and so does the way to what is behind it. -/
theorem nodeTo_sub : ∀ (p : List Int) {t u : Tr}, nodeTo p t = some u → u.keys.Sublist t.keys
  | [], t, u, hn => by simp only [nodeTo, Option.some.injEq] at hn; rw [hn]; exact List.Sublist.refl _
  | x :: p, .mk k c, u, hn => by
    simp only [nodeTo] at hn
    split at hn
    · rename_i hx
      have hN : x.toNat < c.length := by omega
      rw [List.getD_eq_getElem?_getD, List.getElem?_eq_getElem hN] at hn
      exact (nodeTo_sub p hn).trans (kid_sub _ hN)
    · cases hn
theorem sink_pass {K c : Int} (hc : c = K ∨ c = K + 1) : ∀ (p : List Int) {t u : Tr}, Well t → nodeTo p t = some u → K ∈ u.keys → sink c t = p ++ sink c u
  | [], t, u, hw, hn, hk => by simp only [nodeTo, Option.some.injEq] at hn; rw [hn]; rfl
  | x :: p, .mk k cs, u, hw, hn, hk => by
    simp only [nodeTo] at hn
    split at hn
    · rename_i hx
      obtain ⟨N, rfl⟩ : ∃ N : Nat, x = N := ⟨x.toNat, by omega⟩
      rw [Int.toNat_natCast] at hn
      have hN : N < cs.length := by omega
      rw [List.getD_eq_getElem?_getD, List.getElem?_eq_getElem hN] at hn
      have hcl := Well.inner hw (by omega)
      have hmem : K ∈ cs[N].keys := (nodeTo_sub p hn).subset hk
      obtain ⟨s1, s2⟩ := kid_sides hw N hN hmem
      have hpl : place c k = N := by
        refine place_eq (by omega) (fun j hj => ?_) (fun hj => ?_)
        · have := s1 j hj; omega
        · have := s2 hj; omega
      have hi : place c k < cs.length := by omega
      rw [sink_inner hi]
      have e : cs[place c k] = cs[N] := by simp only [hpl]
      rw [e, hpl, sink_pass hc p (hw.kid _ hN) hn hk]; rfl
    · cases hn

theorem own_mem {k : List Int} {cs : List Tr} {N : Nat} (hN : N < k.length) : k.getD N 0 ∈ (Tr.mk k cs).keys :=
  (own_sub k cs).subset (by rw [List.getD_eq_getElem?_getD, List.getElem?_eq_getElem hN]; exact List.getElem_mem hN)

/-- Going on from a cursor is seeking what is behind its key. -/
theorem goF_pass {t : Tr} {ks : List Int} (hs : someB t = true) {k : List Int} {cs : List Tr} (hn : nodeTo ks t = some (.mk k cs)) {N : Nat} (hN : N < k.length) {c : Int} (hc : c = k.getD N 0 ∨ c = k.getD N 0 + 1) : goF c t ks = goF c t [] := by
  rw [goF_at hn, goF_at rfl, List.nil_append, sink_pass hc ks (Well.of_some hs) hn (own_mem hN)]
theorem goB_pass {t : Tr} {ks : List Int} (hs : someB t = true) {k : List Int} {cs : List Tr} (hn : nodeTo ks t = some (.mk k cs)) {N : Nat} (hN : N < k.length) {c : Int} (hc : c = k.getD N 0 ∨ c = k.getD N 0 + 1) : goB c t ks = goB c t [] := by
  rw [goB_at hn, goB_at rfl, List.nil_append, sink_pass hc ks (Well.of_some hs) hn (own_mem hN)]

/-- A cursor is what is sought by its key. -/
theorem goF_self {t : Tr} {ks : List Int} (hs : someB t = true) {k : List Int} {cs : List Tr} (hn : nodeTo ks t = some (.mk k cs)) {N : Nat} (hN : N < k.length) : goF (k.getD N 0) t [] = (ks, (N : Int), true) := by
  have hw := nodeTo_well ks (Well.of_some hs) hn
  obtain ⟨hp, -⟩ := place_of hw.keys hN
  rw [← goF_pass hs hn hN (.inl rfl), goF_at hn]
  by_cases h0 : cs.length = 0
  · rw [sink_leaf h0, hp]
    exact upF_stop (by rw [lenAt_of hn]; simp only [Tr.ks]; omega)
  · have hcl := Well.inner hw h0
    have hi : N < cs.length := by omega
    have hi' : place (k.getD N 0) k < cs.length := by omega
    rw [sink_inner hi']
    simp only [hp]
    rw [List.append_cons, upF_full (nodeTo_snoc hn hi) (hw.kid _ hi) (fun x hx => (kid_sides hw N hi hx).2 hN)]
    exact upF_stop (by rw [lenAt_of hn]; simp only [Tr.ks]; omega)
end Tr
end Go.Proofs.YticfkfjijnfcbaaDoor

/- The cursors of a tree in the order of its keys: plain data. -/
namespace Go.Proofs.YticfkfjijnfcbaaDoor
open Go.RowKit
namespace Tr

/-- The cursor at a key, by its number in order. -/
def curAt (t : Tr) (i : Nat) : List Int × Int × Bool := goF (t.keys.getD i 0) t []

theorem keys_place {ks : List Int} (h : ks.Pairwise (· < ·)) {i : Nat} (hi : i < ks.length) : place (ks.getD i 0) ks = i ∧ place (ks.getD i 0 + 1) ks = i + 1 := place_of h hi

/-- What is sought is the cursor at the first key that isn't less. -/
theorem goF_curAt {t : Tr} (hs : someB t = true) (c : Int) : (place c t.keys < t.keys.length → goF c t [] = curAt t (place c t.keys)) ∧ (¬ place c t.keys < t.keys.length → goF c t [] = ([], 0, false)) := by
  obtain ⟨h1, h2⟩ := seek_key c t.weight t (Nat.le_refl _) (Well.of_some hs)
  have e : goF c t [] = upF t (sink c t) := goF_at rfl
  constructor
  · intro h
    obtain ⟨P, A, k, cs, g1, g2, g3, g4⟩ := h1 h
    have := goF_self hs g2 g3
    rw [g4] at this
    rw [e, g1, curAt, this]
  · intro h
    rw [e, h2 h]

/-- A cursor in order: it stands at its key. -/
theorem curAt_at {t : Tr} (hs : someB t = true) {i : Nat} (hi : i < t.keys.length) : ∃ P A k cs, curAt t i = (P, ((A : Nat) : Int), true) ∧ nodeTo P t = some (.mk k cs) ∧ A < k.length ∧ k.getD A 0 = t.keys.getD i 0 := by
  have hw := Well.of_some hs
  obtain ⟨h1, -⟩ := seek_key (t.keys.getD i 0) t.weight t (Nat.le_refl _) hw
  have hp := (keys_place hw.2 hi).1
  rw [hp] at h1
  obtain ⟨P, A, k, cs, g1, g2, g3, g4⟩ := h1 hi
  exact ⟨P, A, k, cs, by rw [curAt, goF_at rfl]; exact g1, g2, g3, g4⟩
theorem curB_at {t : Tr} (hs : someB t = true) {P : List Int} {A : Nat} {k : List Int} {cs : List Tr} (hn : nodeTo P t = some (.mk k cs)) (hA : A < k.length) : curB t P A = true ∧ curK t P A = k.getD A 0 := by
  have h : curB t P A = true := by unfold curB; rw [hn]; simp [hs, inB]; omega
  exact ⟨h, by rw [(curK_at h hn).1]; simp⟩

/-- What holds of the cursor at number i. -/
theorem curAt_facts {t : Tr} (hs : someB t = true) {i : Nat} (hi : i < t.keys.length) :
    curB t (curAt t i).1 (curAt t i).2.1 = true ∧ curK t (curAt t i).1 (curAt t i).2.1 = t.keys.getD i 0 ∧ (curAt t i).2.2 = true ∧ (curAt t i).1.length ≤ 5 ∧
    walkB t (curAt t i).1 (curAt t i).2.1 (fun K => goF (K + 1) t (curAt t i).1) = (if i + 1 < t.keys.length then curAt t (i + 1) else ([], 0, false)) := by
  obtain ⟨P, A, k, cs, g1, g2, g3, g4⟩ := curAt_at hs hi
  obtain ⟨b1, b2⟩ := curB_at hs g2 g3
  rw [g1]
  refine ⟨b1, by rw [b2, g4], rfl, nodeTo_few hs g2, ?_⟩
  rw [walkB_at b1 g2, Int.toNat_natCast, goF_pass hs g2 g3 (.inr rfl), g4]
  have hp := (keys_place (Well.of_some hs).2 hi).2
  obtain ⟨h1, h2⟩ := goF_curAt hs (t.keys.getD i 0 + 1)
  rw [hp] at h1 h2
  split
  · rename_i h; exact h1 h
  · rename_i h; exact h2 h

/-- The first one. -/
theorem first_curAt {t : Tr} (hs : someB t = true) (h0 : 0 < t.keys.length) : goF 0 t [] = curAt t 0 := by
  obtain ⟨h1, -⟩ := goF_curAt hs 0
  have hp : place 0 t.keys = 0 := place_zero (fun x hx => (some_key hs hx).1)
  rw [hp] at h1
  exact h1 h0

/-- The last key below a node. -/
theorem downL_key : ∀ (n : Nat) (t : Tr), t.weight ≤ n → Well t → Full t → ∃ k cs A, nodeTo (downL n t).1 t = some (.mk k cs) ∧ (downL n t).2 = k.length ∧ k.length ≠ 0 ∧ t.keys = A ++ [k.getD (k.length - 1) 0]
  | n, .mk k cs, hn, hw, hf => by
    have hk0 := Full.keys hf
    by_cases h0 : cs.length = 0
    · have e : downL n (.mk k cs) = ([], k.length) := by
        cases n with
        | zero => rfl
        | succ n => rw [downL, dif_neg (by omega)]
      have hne : k ≠ [] := fun e => hk0 (by rw [e]; rfl)
      refine ⟨k, cs, k.dropLast, by rw [e]; rfl, by rw [e], hk0, ?_⟩
      rw [keys_leaf h0]
      have : k.getD (k.length - 1) 0 = k.getLast hne := by
        rw [List.getLast_eq_getElem, List.getD_eq_getElem?_getD, List.getElem?_eq_getElem (by omega)]; rfl
      rw [this]
      exact (List.dropLast_concat_getLast hne).symm
    · have hlt : cs.length - 1 < cs.length := by omega
      have hcl := Well.inner hw h0
      have hwt := weight_get_le cs _ hlt
      simp only [weight] at hn
      cases n with
      | zero => have := length_le_weights cs; omega
      | succ n =>
        obtain ⟨k', cs', A, h1, h2, h3, h4⟩ := downL_key n cs[cs.length - 1] (by omega) (hw.kid _ hlt) (hf.tops.kid _ hlt)
        refine ⟨k', cs', upto (keyss cs) k (cs.length - 1) ++ A, ?_, ?_, h3, ?_⟩
        · rw [downL, dif_pos hlt, nodeTo, if_pos ⟨by omega, by omega⟩, Int.toNat_natCast, List.getD_eq_getElem?_getD, List.getElem?_eq_getElem hlt]; exact h1
        · rw [downL, dif_pos hlt]; exact h2
        · have hm : max k.length cs.length = cs.length - 1 + 1 := by omega
          have hkn : k[cs.length - 1]? = none := List.getElem?_eq_none (by omega)
          rw [Tr.keys, hm, upto_succ, part, keyss_get cs _ hlt, hkn]
          simp [h4]

theorem keys_own {k : List Int} {cs : List Tr} (hs : someB (.mk k cs) = true) : k.length ≠ 0 ↔ 0 < (Tr.mk k cs).keys.length := by
  constructor
  · intro h
    have := (own_sub k cs).length_le
    omega
  · intro h hk
    have hw := Well.of_some hs
    have hc : cs.length = 0 := by
      refine Classical.byContradiction fun h => ?_
      obtain ⟨⟨w, l, d, hn⟩, _⟩ := hw
      rcases (nodesB_parts hn).2 with ⟨h1, _⟩ | ⟨_, _, _, h4, _⟩
      · exact h h1
      · exact h4 hk
    rw [keys_leaf hc] at h
    omega

/-- The last one. -/
theorem last_curAt {t : Tr} (hs : someB t = true) (h0 : 0 < t.keys.length) : goB 100 t [] = curAt t (t.keys.length - 1) := by
  obtain ⟨k, cs⟩ := t
  have hk := (keys_own hs).2 h0
  rw [goB_last hs hk]
  obtain ⟨k', cs', A, h1, h2, h3, h4⟩ := downL_key (Tr.mk k cs).weight (.mk k cs) (Nat.le_refl _) (Well.of_some hs) (Full.of_some hs hk)
  have hself := goF_self hs h1 (show k'.length - 1 < k'.length by omega)
  have hl : (Tr.mk k cs).keys.getD ((Tr.mk k cs).keys.length - 1) 0 = k'.getD (k'.length - 1) 0 := by
    rw [h4, List.length_append, List.length_singleton, getD_right (by omega), show A.length + 1 - 1 - A.length = 0 by omega]; rfl
  rw [curAt, hl, hself, h2]
  congr 2
  omega

/-- FirstCursor and LastCursor, in these words. -/
theorem whole_first (t : Tr) : walkB t [] 0 (fun _ => goF 0 t []) = if t.someB = true ∧ 0 < t.keys.length then curAt t 0 else ([], 0, false) := by
  unfold walkB
  obtain ⟨k, cs⟩ := t
  by_cases hs : (Tr.mk k cs).someB = true
  · have hk := keys_own hs
    by_cases h0 : 0 < (Tr.mk k cs).keys.length
    · have hb : curB (.mk k cs) [] 0 = true := by unfold curB; simp only [nodeTo]; rw [hs]; have := hk.2 h0; simp [inB]; omega
      rw [if_pos hb, if_pos ⟨hs, h0⟩]
      exact first_curAt hs h0
    · have hb : ¬ curB (.mk k cs) [] 0 = true := by unfold curB; simp only [nodeTo]; rw [hs]; have := fun h => h0 (hk.1 h); simp [inB]; omega
      rw [if_neg hb, if_neg (fun h => h0 h.2)]
  · have hb : ¬ curB (.mk k cs) [] 0 = true := by unfold curB; simp only [nodeTo]; simp [hs]
    rw [if_neg hb, if_neg (fun h => hs h.1)]
theorem whole_last (t : Tr) : walkB t [] 0 (fun _ => goB 100 t []) = if t.someB = true ∧ 0 < t.keys.length then curAt t (t.keys.length - 1) else ([], 0, false) := by
  unfold walkB
  obtain ⟨k, cs⟩ := t
  by_cases hs : (Tr.mk k cs).someB = true
  · have hk := keys_own hs
    by_cases h0 : 0 < (Tr.mk k cs).keys.length
    · have hb : curB (.mk k cs) [] 0 = true := by unfold curB; simp only [nodeTo]; rw [hs]; have := hk.2 h0; simp [inB]; omega
      rw [if_pos hb, if_pos ⟨hs, h0⟩]
      exact last_curAt hs h0
    · have hb : ¬ curB (.mk k cs) [] 0 = true := by unfold curB; simp only [nodeTo]; rw [hs]; have := fun h => h0 (hk.1 h); simp [inB]; omega
      rw [if_neg hb, if_neg (fun h => h0 h.2)]
  · have hb : ¬ curB (.mk k cs) [] 0 = true := by unfold curB; simp only [nodeTo]; simp [hs]
    rw [if_neg hb, if_neg (fun h => hs h.1)]
end Tr
end Go.Proofs.YticfkfjijnfcbaaDoor

/- Bytes that came in, as a slice in memory. -/
namespace Go.Proofs.YticfkfjijnfcbaaDoor
open Go.ChangeShapes Go.WideShapes Go.ChangeAt Go.RowKit
variable {H : Type} {enc : TypeId × Value → H} {w : World} {base : Nat} {spare : Nat → Bool} {held : Bool}

theorem Tryd.cellsU8 : Tryd.prog.cellsOf 5 = 1 := by kernel_rfl

theorem bytes_of_trod (fuel : Nat) {a0 : Option Addr} {len cap : Nat} {x : DataW H × List MemPlace} (hs : ∀ b, spare b = true) (h : DataW.trod enc Tryd.prog w base spare held fuel 47 [.slice a0 len cap] = some x) :
    ∃ bs, BytesIn w w.heap.size (.slice a0 len cap) bs := by
  rcases open_ints Tryd.underlying47 Tryd.underlying5 Tryd.cellsU8 h with ⟨hcs, hx⟩ | ⟨a, len', cap', zs, hcs, _, hl, hm, hz, hx, hcell, hwz⟩
  · simp only [List.cons.injEq, Value.slice.injEq, and_true] at hcs
    obtain ⟨rfl, rfl, rfl⟩ := hcs
    exact ⟨[], none, 0, rfl, Nat.le_refl _, by unfold maxLen; omega, (fun x h => by cases h), .inl rfl⟩
  · simp only [List.cons.injEq, Value.slice.injEq, and_true] at hcs
    obtain ⟨rfl, rfl, rfl⟩ := hcs
    rw [hs, if_pos rfl] at hz
    have hb : ∀ z ∈ zs, 0 ≤ z ∧ z ≤ 255 := fun z hz' => by
      have h5 := hwz z hz'
      have e1 : IntKind.u8.min = 0 := rfl
      have e2 : IntKind.u8.max = 255 := rfl
      simpa [Lit.wf, e1, e2] using h5
    have hlen : ((zs.take len).map Int.toNat).length = len := by simp; omega
    refine ⟨(zs.take len).map Int.toNat, some a, cap, by rw [hlen], by rw [hlen]; exact hl, hm, fun x hx => ?_, ?_⟩
    · obtain ⟨z, hz1, rfl⟩ := List.mem_map.1 hx
      have := hb z (List.mem_of_mem_take hz1)
      omega
    · by_cases h0 : len = 0
      · left; subst h0; simp
      · obtain ⟨b, off, spot⟩ := a
        have hspot : spot = none := by simpa [Addr.add] using World.cell?_spot (hcell 0 (by omega))
        subst hspot
        refine .inr ⟨b, off, rfl, ?_, fun i hi => ?_⟩
        · have h1 := hcell 0 (by omega)
          rw [add_plain] at h1
          exact World.block_lt_of_cell? w _ h1
        · rw [hlen] at hi
          have h1 := hcell i (by omega)
          rw [add_plain] at h1
          rw [h1]
          have hzi := hb zs[i] (List.getElem_mem (by omega))
          have e1 : zs.getD i 0 = zs[i] := by simp [List.getD_eq_getElem?_getD, show i < zs.length by omega]
          have e2 : ((zs.take len).map Int.toNat).getD i 0 = zs[i].toNat := by simp [List.getD_eq_getElem?_getD, hi, show i < zs.length by omega]
          rw [e1, e2]
          congr 2
          omega
end Go.Proofs.YticfkfjijnfcbaaDoor

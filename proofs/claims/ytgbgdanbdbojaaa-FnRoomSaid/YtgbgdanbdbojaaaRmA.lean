/- For every two slices of bytes, the law on room returns true and leaves its arguments as they were; no conditions. -/
import Derived.Test.YtgbgdanbdbojaaaProg
import Derived.Test.YtgbgdanbdbojaaaSh0
import Derived.Test.YtgbgdanbdbojaaaTo
import Derived.Test.YtgbgdanbdbojaaaSh4
import Derived.Test.YtgbgdanbdbojaaaSh2
import Derived.Test.YtgbgdanbdbojaaaSh6
import Derived.Test.YtgbgdanbdbojaaaIter
import Derived.Test.YtgbgdanbdbojaaaSteps
import Derived.Test.YtgbgdanbdbojaaaSh7
import Derived.Test.YtgbgdanbdbojaaaSh15
import Derived.Test.YtgbgdanbdbojaaaStepMore
import Derived.Sort.QuietIn
import Derived.Test.YtgbgdanbdbojaaaSh12
import Derived.RangeFuncNested
import Derived.Shelf.RegionOpen
import Derived.WalkKit
import Derived.OwnWalkIn
import Derived.TacticsInMore
import Derived.Test.YtgbgdanbdbojaaaSh1
import Derived.Test.YtgbgdanbdbojaaaDrawSome
import Derived.Test.YtgbgdanbdbojaaaSh30
import Derived.Test.YtgbgdanbdbojaaaSh23
import Derived.Test.YtgbgdanbdbojaaaSh3
import Derived.Test.YtgbgdanbdbojaaaSh5
import Derived.Test.YtgbgdanbdbojaaaCountA
import Derived.Test.YtgbgdanbdbojaaaFullA
import Derived.Test.YtgbgdanbdbojaaaSh26
import Derived.Deep.RegionHeld3
import Derived.Deep.RegionWith
import Derived.Deep.QuietTactic
import Derived.BigQuiet
import Derived.WalkSmall
import Derived.Test.YtgbgdanbdbojaaaRows
import Derived.Test.YtgbgdanbdbojaaaFacts
import Derived.ProofKit
import Derived.OpenShut
import Derived.ChangeOld
import Derived.Below

/- The fullest leaf, by the steps through a tree. -/
namespace Go.Proofs.Ytgbgdanbdbojaaa
open Go.RowKit

/-- A property of lists of steps that grows to the greatest, said of a whole tree. -/
theorem evs_most (f : List Step → Nat) (h0 : f [] = 0) (happ : ∀ a b, f (a ++ b) = max (f a) (f b)) (hk : ∀ a k, f [.key a k] = 0) (he : ∀ a, f [.fin a] = 0) (F : Tr → Nat) (Fs : List Tr → Nat)
    (hFs0 : Fs [] = 0) (hFs : ∀ t r, Fs (t :: r) = max (F t) (Fs r)) (hF : ∀ a : ATr, F a.tr = max (f [.beg a]) (Fs (ATr.trs a.cs))) :
    ∀ n (a : ATr), a.weight ≤ n → f a.evs = F a.tr := by
  intro n
  induction n with
  | zero =>
    intro a ha
    have hc : a.cs.length = 0 := by have := ATr.ks_le a; omega
    have hk0 : a.ks.length = 0 := by have := ATr.ks_le a; omega
    rw [evs_eq, remS_end (by omega), hF, List.length_eq_zero_iff.1 hc]
    have : f [.beg a, .fin a] = max (f [.beg a]) (f [.fin a]) := happ [.beg a] [.fin a]
    rw [this, he, ATr.trs, hFs0]
  | succ n ih =>
    intro a ha
    have hrem : ∀ m p, 2 * max a.cs.length a.ks.length - p = m → f (remS (a, p)) = Fs (ATr.trs (a.cs.drop ((p + 1) / 2))) := by
      intro m
      induction m with
      | zero =>
        intro p hp
        rw [remS_end (by omega), he, List.drop_eq_nil_of_le (by omega), ATr.trs, hFs0]
      | succ m ihm =>
        intro p hp
        rw [remS_step (by omega), happ, ihm (p + 1) (by omega)]
        obtain ⟨i, hi⟩ : ∃ i, p = 2 * i ∨ p = 2 * i + 1 := ⟨p / 2, by omega⟩
        rcases hi with hi | hi
        · subst hi
          rw [show (2 * i + 1 + 1) / 2 = i + 1 by omega, show (2 * i + 1) / 2 = i by omega]
          by_cases hk1 : i < a.cs.length
          · rw [hev_kid hk1, ih a.cs[i] (by have := ATr.weight_kid hk1; omega), List.drop_eq_getElem_cons hk1, ATr.trs, hFs]
          · rw [hev_nokid hk1, h0, List.drop_eq_nil_of_le (by omega), List.drop_eq_nil_of_le (by omega), ATr.trs, hFs0]; omega
        · subst hi
          rw [show (2 * i + 1 + 1 + 1) / 2 = i + 1 by omega, show (2 * i + 1 + 1) / 2 = i + 1 by omega]
          by_cases hk1 : i < a.ks.length
          · rw [hev_key hk1, hk]; omega
          · rw [hev_nokey hk1, h0]; omega
    rw [evs_eq, hF]
    have : f (.beg a :: remS (a, 0)) = max (f [.beg a]) (f (remS (a, 0))) := happ [.beg a] (remS (a, 0))
    rw [this, hrem _ 0 rfl]
    simp

/-- How many keys the leaf that begins has that has most. -/
def begMost : List Step → Nat
  | [] => 0
  | .beg a :: r => max (if a.cs.length = 0 then a.ks.length else 0) (begMost r)
  | .key _ _ :: r => begMost r
  | .fin _ :: r => begMost r
theorem begMost_append (a b : List Step) : begMost (a ++ b) = max (begMost a) (begMost b) := by
  induction a with
  | nil => simp [begMost]
  | cons x r ih =>
    cases x with
    | beg c => simp only [begMost, List.cons_append, ih]; omega
    | key c k => simpa only [begMost, List.cons_append] using ih
    | fin c => simpa only [begMost, List.cons_append] using ih
theorem begMost_evs (a : ATr) : begMost a.evs = a.tr.leafMax := by
  refine evs_most begMost rfl begMost_append (fun _ _ => rfl) (fun _ => rfl) Tr.leafMax Tr.leafMaxs rfl (fun _ _ => rfl) (fun a => ?_) a.weight a (Nat.le_refl _)
  cases a with
  | mk nb no k c =>
    show max (if (ATr.trs c).length = 0 then k.length else 0) (Tr.leafMaxs (ATr.trs c)) = max (max (if c.length = 0 then k.length else 0) 0) (Tr.leafMaxs (ATr.trs c))
    rw [ATr.trs_length, Nat.max_zero]
end Go.Proofs.Ytgbgdanbdbojaaa

/- The contract, over plain blocks, of the program's RoomOf. -/
namespace Go.Proofs.Ytgbgdanbdbojaaa
open Go.RowKit
attribute [local go_sem] Oper.semAt_some

set_option maxRecDepth 100000 in
set_option maxHeartbeats 4000000 in
theorem impl_room_a {w' : World} {kv cv : Value} {t : Tr} (ht' : TreeA w' kv cv t) (hwt : t.weight ≤ 1048576) (nn : Int) (hn1 : -9223372036854775808 ≤ nn) (hn2 : nn ≤ 9223372036854775807) :
    Calls Try.prog 38 #[.agg #[kv, cv], .int .i64 nn] w' fun e w'' => e = .returned (.int .i64 (Tr.roomB nn t)) ∧ Below w'.heap.size w' w'' := by
  obtain ⟨sA1, sA2, sA3, sA4, sA5, sA6, rfl, rfl⟩ := ht'.slices
  obtain ⟨W1, hW1⟩ : ∃ W1, W1 = w'.alloc (.cells #[.slice sA1 sA2 sA3, .slice sA4 sA5 sA6] 26) := ⟨_, rfl⟩
  have hs1 : W1.heap.size = w'.heap.size + 1 := by rw [hW1]; simp
  have hb1 : Below w'.heap.size w' W1 := by rw [hW1]; exact (Below.refl _ _).alloc (Nat.le_refl _) _
  have kb : W1.heap[w'.heap.size]? = some (.cells #[.slice sA1 sA2 sA3, .slice sA4 sA5 sA6] 26 (0, 0)) := by rw [hW1, new_blk]
  obtain ⟨a, ha1, ha2, ha3, ha4⟩ := (ht'.later hb1 (Nat.le_refl _)).at w'.heap.size 0 ⟨_, _, kb⟩ (box2 kb).1 (box2 kb).2.1
  have haw : a.weight ≤ 1048576 := by unfold ATr.weight; rw [ha3]; exact hwt
  have hit := steps_iter ha4 haw
  have had : a.addr = ⟨w'.heap.size, 0, none⟩ := by unfold ATr.addr; rw [ha1, ha2]
  rw [had] at hit
  have hcnt := begMost_evs a
  rw [ha3] at hcnt
  have hvc := impl_valid _ _ _ _ _ nn ht'.tree hwt hn1 hn2 W1 hb1 (by omega)
  have HVC := Lib.hid hvc
  clear hvc
  have HA := Lib.hid ha4
  have hmix : Try.prog.follows .mixedOrders = true := by kernel_rfl
  have HIT := Lib.hid hit
  have HCNT := Lib.hid hcnt
  have HW1 := Lib.hid hW1
  have HB1 := Lib.hid hb1
  have HKB := Lib.hid kb
  clear hit hcnt hW1 hb1 ht' ha1 ha2 ha3 ha4 haw had
  refine (callsIn_wide (n := 9)).1 (callsIn_of_wp_marks Try.func38 rfl trivial ?_ rfl)
  simp only [Try.ntmps38, List.size_toArray, List.length_cons, List.length_nil, Nat.reduceAdd, Nat.reduceSub, Array.replicate_succ, Array.replicate_zero, List.push_toArray, List.append_toArray, List.nil_append, List.cons_append]
  obtain ⟨x1, x2, x3, x4⟩ := box2 kb
  clear kb
  gi_wp2_with fail
  rw [← HW1.out]
  refine ⟨trivial, ?_⟩
  refine ((callsIn_wide (n := _)).2 HVC.out).mono ?_
  rintro e w2 ⟨rfl, hb2⟩
  have hs2' := hb2.size
  have k2 := (hb2.block _ (by omega)).trans HKB.out
  clear x1 x2 x3 x4
  obtain ⟨x1, x2, x3, x4⟩ := box2 k2
  have HB2 := Lib.hid (And.intro hb2 (HB1.out.trans (hb2.mono (by omega))))
  clear hb2 k2
  cases hv : Tr.validB nn t with
  | false =>
    have HV := Lib.hid (show Tr.roomB nn t = -1 by simp [Tr.roomB, hv])
    clear hv
    gi_wp2_with fail
    refine ⟨_, results_tmp rfl _ _ _, by rw [HV.out]; rfl, HB2.out.2⟩
  | true =>
  have hwd := Tr.valid_wide hv
  have hlm := Tr.valid_leafMax hv
  have HV := Lib.hid (show Tr.roomB nn t = nn - t.leafMax by simp [Tr.roomB, hv])
  have HLM := Lib.hid hlm
  clear hv hlm
  gi_wp2_with fail
  obtain ⟨W2, hW2⟩ : ∃ W2, W2 = w2.alloc (.cells #[.int .i64 0] 3) := ⟨_, rfl⟩
  rw [← hW2]
  have hs2 : W2.heap.size = w2.heap.size + 1 := by rw [hW2]; simp
  have hk2 : ∀ K : Nat → Prop, Keep K w2 W2 := fun K => by rw [hW2]; exact Keep.alloc K _ _
  have b3 : W2.heap[w2.heap.size]? = some (.cells #[.int .i64 0] 3 (0, 0)) := by rw [hW2]; exact new_blk _ _
  have B3 := Lib.hid b3
  clear hW2 b3 x1 x2 x3 x4
  refine wp_loopA (fb := #[.pointer (some ⟨w'.heap.size, 0, none⟩)]) (lb := #[]) rfl (enters_of Try.func44 (by kernel_rfl) rfl) HIT.out ((Keep.of_below HB2.out.1 (fun k _ h => h)).trans (hk2 _)) (fun x => by cases x <;> rfl)
    (fun k => k < w2.heap.size) (fun k h => by omega) (fun k h => by omega)
    (fun pre Pv W => ¬ Pv (w2.heap.size) ∧ W.heap[w2.heap.size]? = some (.cells #[.int .i64 (begMost pre)] 3 (0, 0)))
    (fun c pre Pv W => False)
    (fun pre Pv A Pv' B h hk hp => by
      obtain ⟨h1, h2⟩ := h
      have l2 := (Array.getElem?_eq_some_iff.1 h2).1
      refine ⟨fun h => ?_, (hk.block _ l2 h1).trans h2⟩
      rcases hp _ h with h | h
      · exact h1 h
      · omega)
    (fun c pre Pv A Pv' B h hk hp => h)
    ⟨by omega, B3.out⟩
    (fun x a' Pv W => ∃ bx, ¬ Pv bx ∧ bx ≠ w2.heap.size ∧ W.heap[bx]? = some (.cells #[.pointer (some x.node.addr), .int .i64 x.what, .int .i64 x.kk] 63 (0, 0)) ∧
      a' = { tmps := #[.agg #[.slice sA1 sA2 sA3, .slice sA4 sA5 sA6], .int .i64 nn, .pointer (some ⟨w'.heap.size, 0, none⟩), undef, .int .i64 0, .pointer (some ⟨w2.heap.size, 0, none⟩), .pointer (some ⟨bx, 0, none⟩), .agg #[.slice sA1 sA2 sA3, .slice sA4 sA5 sA6], .int .i64 nn, .bool true, .bool false, .func (.func 44) #[.pointer (some ⟨w'.heap.size, 0, none⟩)] #[], .agg #[.pointer (some x.node.addr), .int .i64 x.what, .int .i64 x.kk], undef, undef, undef, undef, undef, undef, undef, undef, undef, undef, undef, undef, undef, undef, undef, undef, undef, undef, undef, undef, undef, undef, undef], defers := [] })
    (fun x a' Pv A B h hk => by
      obtain ⟨bx, h1, h2, h3, h4⟩ := h
      exact ⟨bx, h1, h2, (hk.block _ (Array.getElem?_eq_some_iff.1 h3).1 h1).trans h3, h4⟩)
    ?assign ?body ?done ?stop
  case assign =>
    intro l m pre x Pv W hI hbnd
    rw [Step.enc_eq]
    have hI' := Lib.hid hI
    have HB := Lib.hid hbnd
    clear hI hbnd
    gi_wp2
    have hlt := (Array.getElem?_eq_some_iff.1 hI'.out.2).1
    refine ⟨Keep.alloc _ _ _, ⟨hI'.out.1, (old_blk _ _ _ hlt).trans hI'.out.2⟩, W.heap.size, fun h => ?_, by omega, new_blk _ _, rfl⟩
    have := HB.out _ h
    omega
  case body =>
    rintro l m pre x a' Pv W ⟨h1, h2⟩ ⟨bx, h3, h4, h5', rfl⟩ hkW hsub hbnd hp
    obtain ⟨c1, f1⟩ := box1 h2
    have c2 : W.cell? ⟨bx, 1, none⟩ = some (.int .i64 x.what) := by simp [World.cell?, h5']
    have c0 : W.cell? ⟨bx, 0, none⟩ = some (.pointer (some x.node.addr)) := by simp [World.cell?, h5']
    have hle : begMost pre ≤ 6 := by
      obtain ⟨r, hr⟩ := hp
      have := HCNT.out
      have h6 := HLM.out
      rw [← hr, begMost_append, begMost_append] at this
      omega
    have hnx : begMost (pre ++ [x]) = max (begMost pre) (begMost [x]) := begMost_append _ _
    have hx6 : begMost [x] ≤ 6 := by
      obtain ⟨r, hr⟩ := hp
      have := HCNT.out
      have h6 := HLM.out
      rw [← hr, begMost_append, begMost_append] at this
      omega
    have hkeep1 : ∀ k, k < W1.heap.size → W.heap[k]? = W1.heap[k]? := fun k hk => (hkW.block k (by omega) (by omega)).trans (((hk2 (fun _ => True)).block k (by omega) trivial).trans (HB2.out.1.block k hk))
    have hat := (evs_at HA.out (hp.subset (by simp : x ∈ pre ++ [x]))).later hkeep1
    have HAT := Lib.hid hat
    clear hkeep1 hat
    have HNX := Lib.hid hnx
    have H2 := Lib.hid h2
    clear hnx h2 h5' hp hsub hbnd hkW
    cases x with
    | beg b =>
      obtain ⟨_, _, _, _, _, _, _, _, _, z1, z2, _⟩ := HAT.out.parts
      dsimp only [Step.node] at z1 z2
      dsimp only [Step.what] at c2
      dsimp only [Step.node] at c0
      unfold ATr.addr at c0
      by_cases hn : b.cs.length = 0
      · have hn' : ((b.cs.length : Int) == 0) = true := by simp [hn]
        have hbb : begMost [Step.beg b] = b.ks.length := by simp [begMost, hn]
        rw [hbb] at hx6
        have HBB := Lib.hid hbb
        clear hbb hn
        gi_wp2
        gi_region_with_o (fail)
        all_goals (
          gi_wp2
          all_goals (
            refine ⟨(Keep.drew _ _).trans (Keep.setCell _ _ _ _ h1), h1, ?_⟩
            rw [HNX.out, HBB.out]
            refine (set_blk (w := W.drew) _ H2.out).trans ?_
            rename_i hmm
            first
              | (rw [show max (begMost pre) b.ks.length = b.ks.length by omega]; rfl)
              | (rw [show max (begMost pre) b.ks.length = begMost pre by omega]; rfl)))
      · have hn' : ((b.cs.length : Int) == 0) = false := by simpa using hn
        have hb : begMost (pre ++ [Step.beg b]) = begMost pre := by rw [HNX.out]; simp [begMost, hn]
        have HBB := Lib.hid hb
        clear hb hn
        gi_wp2
        refine ⟨Keep.refl _ _, h1, ?_⟩
        rw [HBB.out]
        exact H2.out
    | key b k =>
      have hb : begMost (pre ++ [Step.key b k]) = begMost pre := by rw [HNX.out]; simp [begMost]
      have HBB := Lib.hid hb
      clear hb
      dsimp only [Step.what] at c2
      gi_wp2
      refine ⟨Keep.refl _ _, h1, ?_⟩
      rw [HBB.out]
      exact H2.out
    | fin b =>
      have hb : begMost (pre ++ [Step.fin b]) = begMost pre := by rw [HNX.out]; simp [begMost]
      have HBB := Lib.hid hb
      clear hb
      dsimp only [Step.what] at c2
      gi_wp2
      refine ⟨Keep.refl _ _, h1, ?_⟩
      rw [HBB.out]
      exact H2.out
  case done =>
    intro W3 hk3 hI hlt hD
    obtain ⟨h1, h2⟩ := hI
    rw [HCNT.out] at h2
    obtain ⟨c1, f1⟩ := box1 h2
    rw [hs2] at hD
    have HD := Lib.hid hD
    have H2 := Lib.hid h2
    have hlm := HLM.out
    clear h2 hD
    gi_wp2
    refine ⟨by simp, .inl ⟨_, _, rfl, run_takeDeferred HD.out, ?_⟩⟩
    refine ⟨_, results_tmp rfl _ _ _, by rw [HV.out]; rfl, ?_⟩
    have hk5 : Keep (fun k => k < w2.heap.size) W3 (W3.putObj (w2.heap.size + 1) (.deferred none)) := Keep.putObj _ _ _ _ (by omega)
    exact HB2.out.2.trans ((((hk2 _).trans hk3).trans hk5).below (B := w'.heap.size) (by omega) (fun k h => by omega))
  case stop =>
    rintro c pre' W3 hk3 hp h hlt hD
    exact h.elim
end Go.Proofs.Ytgbgdanbdbojaaa

/- The model draws a tree and a width. -/
namespace Go.Proofs.Ytgbgdanbdbojaaa
open Go.RowKit

/-- What drawing a tree and a width leaves. -/
def TreeDrawn (w : World) (e : Ending) (w' : World) : Prop :=
  ∃ (kv cv : Value) (t : Tr) (wide : Int), e = .returned (.tuple #[.agg #[kv, cv], .int .i64 wide]) ∧ -1 ≤ wide ∧ wide ≤ 7 ∧ TreeQ w' (fun k => w.heap.size ≤ k ∧ k < w'.heap.size) kv cv t ∧ t.weight ≤ 400000 ∧ Below w.heap.size w w'



set_option maxHeartbeats 1000000 in
set_option maxRecDepth 100000 in
theorem DrawRoomOf_c {w : World} {B : Nat} {v : Value} {bs : List Nat} (h : BytesIn w B v bs) (w' : World) (hbw : Below B w w') (hB : B ≤ w'.heap.size) :
    Calls Try.prog 37 #[v] w' (TreeDrawn w') := by
  obtain ⟨W1, hW1⟩ : ∃ W1, W1 = w'.alloc (.cells #[.slice none 0 0, .slice none 0 0] 26) := ⟨_, rfl⟩
  obtain ⟨R, hRe⟩ : ∃ R, R = w'.heap.size + 1 := ⟨_, rfl⟩
  have hs1 : W1.heap.size = R := by rw [hW1, hRe]; simp
  have hR1 : w'.heap.size < R := by omega
  have hR2 : R ≤ w'.heap.size + 1 := by omega
  have hb1 : Below w'.heap.size w' W1 := by rw [hW1]; exact (Below.refl _ _).alloc (Nat.le_refl _) _
  have hk1 : W1.heap[w'.heap.size]? = some (.cells #[.slice none 0 0, .slice none 0 0] 26 (0, 0)) := by rw [hW1, new_blk]
  have hop := open_c h W1 (hbw.trans (hb1.mono hB)) (by omega)
  rw [hs1] at hop
  have HO := Lib.hid hop
  clear hop hRe
  obtain ⟨va, vcap, rfl, -⟩ := h
  have HW1 := Lib.hid hW1
  have H1 := Lib.hid (And.intro hb1 hk1)
  clear hW1 hb1 hk1 hbw
  go_enter Try.func37, Try.ntmps37
  go_wp2_with fail
  rw [← HW1.out]
  refine HO.out.mono ?_
  rintro e w2 ⟨rfl, ⟨bs', hr2⟩, hb2⟩
  have hs2 := hb2.size
  have hrl2 := hr2.lt
  obtain ⟨p0, hp0, hr2⟩ : ∃ p0 : Nat, p0 ≤ 100 ∧ Rd w2 R R bs' p0 := ⟨0, by omega, hr2⟩
  have HS := Lib.hid (some_c w2 _ _ bs' p0 hr2 (by omega))
  have H2 := Lib.hid hb2
  clear hr2 hb2
  go_wp2_with fail
  refine HS.out.mono ?_
  rintro e w3 ⟨k3, c3, t, wide, q, rfl, hwd1, hwd2, ht3, hw3, hr3, hq3, ho3⟩
  obtain ⟨b1, b2, b3, b4, b5, b6, rfl, rfl⟩ := ht3.slices
  have hs3 := ho3.size
  have hk3 := (ho3.block w'.heap.size (by omega) (by omega)).trans ((H2.out.block w'.heap.size (by omega)).trans H1.out.2)
  have hb3 : Below w'.heap.size w' w3 := H1.out.1.trans ((H2.out.mono (by omega)).trans (ho3.below (B := w'.heap.size) (by omega) (by omega)))
  obtain ⟨y1, y2, y3, y4⟩ := box2 hk3
  have H3 := Lib.hid (And.intro ht3 (And.intro hk3 hb3))
  clear ht3 hr3 ho3 hk3 hb3
  go_wp2_with fail
  obtain ⟨wf, hwf⟩ : ∃ wf, wf = (w3.setCell ⟨w'.heap.size, 0, none⟩ (.slice b1 b2 b3)).setCell ⟨w'.heap.size, 1, none⟩ (.slice b4 b5 b6) := ⟨_, rfl⟩
  have hfb : wf.heap[w'.heap.size]? = some (.cells #[.slice b1 b2 b3, .slice b4 b5 b6] 26 (0, 0)) := by
    rw [hwf]; exact set_blk (o := 1) _ (set_blk (o := 0) _ H3.out.2.1)
  obtain ⟨d1, d2, d3, d4⟩ := box2 hfb
  have hsf : wf.heap.size = w3.heap.size := by rw [hwf]; simp
  rw [← hwf]
  refine bodyPost_ret (v := .tuple #[.agg #[.slice b1 b2 b3, .slice b4 b5 b6], .int .i64 wide]) (by simp [results, Try.results37, go_sem, d1, d2]) rfl ⟨_, _, t, wide, rfl, hwd1, hwd2, ?_, hw3, ?_⟩
  · refine H3.out.1.same (fun k hk => ?_) (fun k hk => ⟨by omega, by omega⟩)
    rw [hwf, set_other _ _ _ _ _ (by omega), set_other _ _ _ _ _ (by omega)]
  · rw [hwf]; exact (H3.out.2.2.setCell (by show w'.heap.size ≤ w'.heap.size; omega) _).setCell (by show w'.heap.size ≤ w'.heap.size; omega) _
end Go.Proofs.Ytgbgdanbdbojaaa

/- A key where the leaf has room: nothing is split, no leaf grows by more than one: plain data. -/
namespace Go.Proofs.Ytgbgdanbdbojaaa
open Go.RowKit
namespace Tr

theorem leafMaxs_set (c : List Tr) (i : Nat) (h : i < c.length) (u : Tr) (m : Nat) (hm : leafMaxs c ≤ m) (hu : u.leafMax ≤ m) : leafMaxs (setKid c i u) ≤ m := by
  have h1 : leafMaxs (c.take i ++ c.drop i) = leafMaxs c := by rw [List.take_append_drop]
  rw [leafMaxs_append, List.drop_eq_getElem_cons h] at h1
  simp only [leafMaxs] at h1
  unfold setKid
  rw [leafMaxs_append]
  simp only [leafMaxs]
  omega

theorem grow_room {wide : Int} (key : Int) : ∀ (n : Nat) (t : Tr), t.weight ≤ n → ∀ (least d : Int), nodesB wide least d t = true → (t.leafMax : Int) < wide →
    (grow wide key t).2 = 0 ∧ ¬ wide < ((grow wide key t).1.ks.length : Int) ∧ (grow wide key t).1.leafMax ≤ t.leafMax + 1 := by
  intro n
  have hleaf : ∀ (k : List Int), ((Tr.mk k []).leafMax : Int) < wide →
      (grow wide key (.mk k [])).2 = 0 ∧ ¬ wide < ((grow wide key (.mk k [])).1.ks.length : Int) ∧ (grow wide key (.mk k [])).1.leafMax ≤ (Tr.mk k []).leafMax + 1 := by
    intro k h
    have hl := putAt_length (x := key) (place_le key k)
    rw [grow_leaf rfl]
    simp only [leafMax, leafMaxs, List.length_nil, if_true] at h ⊢
    refine ⟨trivial, ?_, ?_⟩
    · show ¬ wide < ((putAt k _ key).length : Int)
      rw [hl]; omega
    · rw [hl]; omega
  induction n with
  | zero =>
    rintro ⟨k, c⟩ hn least d h hr
    simp only [weight] at hn
    have hc : c = [] := List.length_eq_zero_iff.1 (by have := length_le_weights c; omega)
    subst hc
    exact hleaf k hr
  | succ n ih =>
    rintro ⟨k, c⟩ hn least d h hr
    simp only [weight] at hn
    obtain ⟨⟨h1, h2⟩, h3⟩ := nodes_mem h
    rcases h3 with ⟨h3, hd⟩ | ⟨h4, h5, h6, h7, h8⟩
    · have hc : c = [] := List.length_eq_zero_iff.1 h3
      subst hc
      exact hleaf k hr
    · have hp : place key k < c.length := by have := place_le key k; omega
      have hw := weight_get_le c (place key k) hp
      have hlm := leafMax_get c _ hp
      have hle : (Tr.mk k c).leafMax = leafMaxs c := by simp only [leafMax, if_neg h4]; omega
      rw [hle] at hr ⊢
      obtain ⟨i1, i2, i3⟩ := ih c[place key k] (by omega) _ _ (h8 _ (List.getElem_mem hp)) (by omega)
      rw [grow_inner hp]
      unfold growStep
      rw [if_neg i2]
      have hsl := setKid_length (u := (grow wide key c[place key k]).1) hp
      refine ⟨i1, ?_, ?_⟩
      · show ¬ wide < (k.length : Int)
        omega
      · show (Tr.mk k (setKid c (place key k) (grow wide key c[place key k]).1)).leafMax ≤ _
        have := leafMaxs_set c _ hp (grow wide key c[place key k]).1 (leafMaxs c + 1) (by omega) (by omega)
        simp only [leafMax, hsl, if_neg h4]
        omega

/-- What a round of the law asks. -/
theorem ins_room {wide key : Int} {t : Tr} (h : validB wide t = true) (hr : (t.leafMax : Int) < wide) :
    insN wide key t = 0 ∧ (insT wide key t).leafMax ≤ t.leafMax + 1 ∧ (insT wide key t).count = t.count := by
  have h' := h
  simp only [validB, Bool.and_eq_true] at h'
  obtain ⟨g1, g2, g3⟩ := grow_room key t.weight t (Nat.le_refl _) _ _ h'.2.1 hr
  have hg : insG wide key t = false := decide_eq_false g2
  have hn : insN wide key t = 0 := by unfold insN; dsimp only; rw [if_neg g2]; exact g1
  obtain ⟨f1, -⟩ := ins_facts key h
  rw [hn, hg] at f1
  refine ⟨hn, ?_, by simpa using f1⟩
  unfold insT
  dsimp only
  rw [if_neg g2]
  exact g3

mutual
theorem full_of_room {wide : Int} (hw : 1 ≤ wide) : ∀ t : Tr, (t.leafMax : Int) = wide → 1 ≤ t.full wide
  | .mk k c, h => by
    simp only [leafMax] at h
    simp only [full]
    by_cases hc : c.length = 0
    · have hc' : c = [] := List.length_eq_zero_iff.1 hc
      subst hc'
      simp only [leafMaxs, List.length_nil, if_true] at h
      rw [if_pos (by omega)]
      omega
    · rw [if_neg hc] at h
      have := fulls_of_room hw c (by omega)
      omega
theorem fulls_of_room {wide : Int} (hw : 1 ≤ wide) : ∀ c : List Tr, (leafMaxs c : Int) = wide → 1 ≤ fulls wide c
  | [], h => by simp only [leafMaxs] at h; omega
  | t :: r, h => by
    simp only [leafMaxs] at h
    simp only [fulls]
    by_cases ht : (t.leafMax : Int) = wide
    · have := full_of_room hw t ht; omega
    · have := fulls_of_room hw r (by omega); omega
end
end Tr
end Go.Proofs.Ytgbgdanbdbojaaa

/- The law on room: the walk over the contracts. -/
namespace Go.Proofs.Ytgbgdanbdbojaaa
open Go.RowKit

set_option maxHeartbeats 2000000 in
set_option maxRecDepth 100000 in
theorem fnRoom_c {w : World} {v1 v2 : Value} {bs1 bs2 : List Nat} (h1 : BytesIn w w.heap.size v1 bs1) (h2 : BytesIn w w.heap.size v2 bs2) :
    Calls Try.prog 8 #[v1, v2] w fun e w' => e = .returned (.bool true) ∧ Below w.heap.size w w' := by
  have H1 := Lib.hid h1
  obtain ⟨a1, c1, rfl, -⟩ := h1
  obtain ⟨a2, c2, rfl, -⟩ := h2
  by_cases hc1 : bs1.length ≤ 1048576
  case neg =>
    have hc1' : ((bs1.length : Int) > 1048576) := by omega
    go_enter Try.func8, Try.ntmps8
    go_wp2_with fail
    go_ret
    exact ⟨rfl, Below.refl _ _⟩
  by_cases hc2 : bs2.length ≤ 1048576
  case neg =>
    have hc1' : ¬ ((bs1.length : Int) > 1048576) := by omega
    have hc2' : ((bs2.length : Int) > 1048576) := by omega
    go_enter Try.func8, Try.ntmps8
    go_wp2_with fail
    go_ret
    exact ⟨rfl, Below.refl _ _⟩
  have hc1' : ¬ ((bs1.length : Int) > 1048576) := by omega
  have hc2' : ¬ ((bs2.length : Int) > 1048576) := by omega
  have HD := Lib.hid (DrawRoomOf_c H1.out w (Below.refl _ _) (Nat.le_refl _))
  go_enter Try.func8, Try.ntmps8
  go_wp2_with fail
  refine HD.out.mono ?_
  rintro e w2 ⟨k2, d2, t, wide, rfl, hwd1, hwd2, ht2, hw2, hb2⟩
  obtain ⟨b1, b2, b3, b4, b5, b6, rfl, rfl⟩ := ht2.slices
  have hs2 := hb2.size
  obtain ⟨W3, hW3⟩ : ∃ W3, W3 = w2.alloc (.cells #[.slice b1 b2 b3, .slice b4 b5 b6] 26) := ⟨_, rfl⟩
  have hs3 : w2.heap.size < W3.heap.size := by rw [hW3]; simp
  have hb3 : Below w2.heap.size w2 W3 := by rw [hW3]; exact (Below.refl _ _).alloc (Nat.le_refl _) _
  have hx3 : W3.heap[w2.heap.size]? = some (.cells #[.slice b1 b2 b3, .slice b4 b5 b6] 26 (0, 0)) := by rw [hW3, new_blk]
  have hta3 : TreeA W3 (.slice b1 b2 b3) (.slice b4 b5 b6) t := (ht2.a (fun k hk => hk.2)).later hb3 (Nat.le_refl _)
  have hwt : t.weight ≤ 1048576 := by omega
  have hct := Tr.count_le t
  have C1 := fun (wx : World) (hx : Below W3.heap.size W3 wx) => impl_room_a (hta3.later hx (Nat.le_refl _)) hwt wide (by omega) (by omega)
  have C2 := fun (wx : World) (hx : Below W3.heap.size W3 wx) => specRoomOf_c hta3.tree hwt wide wx hx hx.size
  have C3 := fun (wx : World) (hx : Below W3.heap.size W3 wx) => impl_valid _ _ _ _ _ wide hta3.tree hwt (by omega) (by omega) wx hx hx.size
  have C4 := fun (wx : World) (hx : Below W3.heap.size W3 wx) => impl_count_a (hta3.later hx (Nat.le_refl _)) hwt
  have C5 := fun (wx : World) (hx : Below W3.heap.size W3 wx) => impl_full_a (hta3.later hx (Nat.le_refl _)) hwt wide (by omega) (by omega)
  obtain ⟨N, hN⟩ : ∃ N, N = Tr.roomB wide t := ⟨_, rfl⟩
  rw [← hN] at C1 C2
  have HN := Lib.hid hN
  have HC1 := Lib.hid C1
  have HC2 := Lib.hid C2
  have HC3 := Lib.hid C3
  have HC4 := Lib.hid C4
  have HC5 := Lib.hid C5
  have BOX : Hid (∀ wx : World, Below W3.heap.size W3 wx → wx.heap[w2.heap.size]? = some (.cells #[.slice b1 b2 b3, .slice b4 b5 b6] 26 (0, 0))) := Lib.hid (fun wx hx => (hx.block _ (by omega)).trans hx3)
  have HF := Lib.hid (hb2.trans (hb3.mono (by omega)))
  have HTA := Lib.hid hta3
  have hx3x := hx3
  rw [hW3] at hx3x
  obtain ⟨x1, x2, x3, x4⟩ := box2 hx3x
  have HW3 := Lib.hid hW3
  have hneb : (N != N) = false := by simp
  clear ht2 hb2 hW3 hb3 hx3 hx3x hta3 C1 C2 C3 C4 C5 hN
  go_wp2_with fail
  rw [← HW3.out]
  clear x1 x2 x3 x4
  refine (HC1.out W3 (Below.refl _ _)).mono ?_
  rintro e w4 ⟨rfl, hb4⟩
  have HB4 := Lib.hid hb4
  have hz4 := HB4.out.size
  clear hb4
  obtain ⟨x1, x2, x3, x4⟩ := box2 (BOX.out w4 HB4.out)
  go_wp2_with fail
  refine (HC2.out w4 HB4.out).mono ?_
  rintro e w5 ⟨rfl, hb5⟩
  have HB5 := Lib.hid (HB4.out.trans (hb5.mono hz4))
  have hz5 := HB5.out.size
  clear hb5 x1 x2 x3 x4
  obtain ⟨x1, x2, x3, x4⟩ := box2 (BOX.out w5 HB5.out)
  by_cases hv : Tr.validB wide t = true
  case neg =>
    have hv' : Tr.validB wide t = false := by simpa using hv
    have hN1 : N = -1 := by rw [HN.out]; simp [Tr.roomB, hv']
    subst hN1
    have C3 := HC3.out
    rw [hv'] at C3
    have HC3' := Lib.hid C3
    clear C3 hv hv' hneb
    go_wp2_with fail
    refine (HC2.out w5 HB5.out).mono ?_
    rintro e w6 ⟨rfl, hb6⟩
    have HB6 := Lib.hid (HB5.out.trans (hb6.mono hz5))
    have hz6 := HB6.out.size
    clear hb6 x1 x2 x3 x4
    obtain ⟨x1, x2, x3, x4⟩ := box2 (BOX.out w6 HB6.out)
    go_wp2_with fail
    refine (HC3'.out w6 HB6.out).mono ?_
    rintro e w7 ⟨rfl, hb7⟩
    have HB7 := Lib.hid (HB6.out.trans (hb7.mono hz6))
    clear hb7 x1 x2 x3 x4
    go_wp2_with fail
    go_ret
    exact ⟨rfl, HF.out.trans (HB7.out.mono (by have := HF.out.size; omega))⟩
  have hlm := Tr.valid_leafMax hv
  have hwd := Tr.valid_wide hv
  have hN2 : N = wide - (t.leafMax : Int) := by rw [HN.out]; simp [Tr.roomB, hv]
  have hN0 : ¬ N < 0 := by omega
  have hN6 : N ≤ 6 := by omega
  obtain ⟨W6, hW6⟩ : ∃ W6, W6 = w5.alloc (.cells #[.slice b1 b2 b3, .slice b4 b5 b6] 26) := ⟨_, rfl⟩
  have hs6 : W6.heap.size = w5.heap.size + 1 := by rw [hW6]; simp
  have hb6 : Below W3.heap.size W3 W6 := HB5.out.trans (by rw [hW6]; exact (Below.refl _ _).alloc (by omega) _)
  have hk6 : W6.heap[w5.heap.size]? = some (.cells #[.slice b1 b2 b3, .slice b4 b5 b6] 26 (0, 0)) := by rw [hW6, new_blk]
  have HX := Lib.hid (And.intro hv (And.intro hlm (And.intro hwd hN2)))
  have HB6 := Lib.hid (And.intro hb6 hk6)
  have HW6 := Lib.hid hW6
  clear hv hlm hN2 hW6 hb6 hk6
  go_wp2_with fail
  rw [← HW6.out]
  clear x1 x2 x3 x4
  go_loopw [9, 10, 11, 12, 51] (fun s9 s10 s11 s12 i wr => ∃ (j : Nat) (T : Tr) (kv cv : Value), (j : Int) ≤ N ∧ i = .int .i64 j ∧ Hid (Tr.validB wide T = true ∧ (T.leafMax : Int) ≤ (t.leafMax : Int) + (j : Int) ∧ T.count = t.count ∧
      wr.heap[w5.heap.size]? = some (.cells #[kv, cv] 26 (0, 0)) ∧ TreeA wr kv cv T ∧ Below W3.heap.size W3 wr ∧ W6.heap.size ≤ wr.heap.size)) (fun _ _ _ _ i _ => (N - intOf i).toNat)
  case atStart => exact ⟨0, t, _, _, by omega, rfl, Lib.hid ⟨HX.out.1, by omega, rfl, HB6.out.2, HTA.out.later HB6.out.1 (Nat.le_refl _), HB6.out.1, Nat.le_refl _⟩⟩
  case round =>
    obtain ⟨j, T, kv, cv, hjN, rfl, HT⟩ := hrel
    obtain ⟨q1, q2, q3, q4, q5, q6, rfl, rfl⟩ := HT.out.2.2.2.2.1.slices
    have hzr := HT.out.2.2.2.2.2.2
    have hTw : T.weight ≤ 1048576 := by have := Tr.valid_small HT.out.1; omega
    have hTI := HT.out.2.2.2.2.1.tree
    by_cases hlt : (j : Int) < N
    · have hj6 : (j : Int) ≤ 5 := by omega
      have hm1 : IntKind.i64.wrap ((j : Int) * 37) = (j : Int) * 37 := by rw [IntKind.wrap_i64]; omega
      have hm2 : IntKind.i64.wrap ((j : Int) * 37 + (bs2.length : Int)) = (j : Int) * 37 + (bs2.length : Int) := by rw [IntKind.wrap_i64]; omega
      obtain ⟨key, hkey⟩ : ∃ key : Int, Int.tmod ((j : Int) * 37 + (bs2.length : Int)) 100 = key := ⟨_, rfl⟩
      have hk99 : 0 ≤ key ∧ key ≤ 99 := by
        rw [← hkey, Int.tmod_eq_emod_of_nonneg (by omega)]
        omega
      obtain ⟨x1, x2, x3, x4⟩ := box2 HT.out.2.2.2.1
      have K1 := impl_has hTI hTw key wr (Below.refl _ _) (Nat.le_refl _)
      obtain ⟨hb, hhb⟩ : ∃ hb, hb = (T.pathB key).2 := ⟨_, rfl⟩
      rw [← hhb] at K1
      have HK1 := Lib.hid K1
      have HHB := Lib.hid hhb
      have HTI := Lib.hid hTI
      clear K1 hhb hTI
      go_wp2_with fail
      refine HK1.out.mono ?_
      rintro e w7 ⟨rfl, hb7⟩
      have hz7 := hb7.size
      have hx7 := (hb7.block _ (by omega)).trans HT.out.2.2.2.1
      have H7 := Lib.hid (And.intro hb7 hx7)
      clear x1 x2 x3 x4 hb7 hx7
      obtain ⟨x1, x2, x3, x4⟩ := box2 H7.out.2
      cases hb with
      | true =>
        go_wp2_with fail
        go_roundw
        case rel => exact ⟨j + 1, T, _, _, by omega, by go_num, Lib.hid ⟨HT.out.1, by have := HT.out.2.1; omega, HT.out.2.2.1, H7.out.2, HT.out.2.2.2.2.1.later H7.out.1 (Nat.le_refl _), HT.out.2.2.2.2.2.1.trans (H7.out.1.mono (by have := HT.out.2.2.2.2.2.1.size; omega)), by omega⟩⟩
        case measure => simp [intOf]; omega
      | false =>
        have hna : Tr.askedB wide key T = true := (Tr.asked_iff HT.out.1).2 ⟨hk99, fun hm => by
          have := (Tr.hasB_iff key T (Tr.valid_some HT.out.1)).2 hm
          rw [← HHB.out] at this
          cases this⟩
        obtain ⟨r1, r2, r3⟩ := Tr.ins_room (key := key) HT.out.1 (by have := HT.out.2.1; have := HX.out.2.2.2; omega)
        obtain ⟨m1, -⟩ := Tr.ins_more hna
        have hsp : Tr.splitsB wide key T = 0 := by simp [Tr.splitsB, hna, r1]
        have hki : Tr.insKeyT wide key T = Tr.insT wide key T := by simp [Tr.insKeyT, hna]
        have K2 := impl_splits_a HTI.out hTw wide key (by omega) (by omega) w7 H7.out.1 hz7
        rw [hsp] at K2
        have HK2 := Lib.hid K2
        have HR := Lib.hid (And.intro hna (And.intro r2 (And.intro r3 (And.intro m1 hki))))
        clear K2 hna r1 r2 r3 m1 hsp hki
        go_wp2_with fail
        refine HK2.out.mono ?_
        rintro e w8 ⟨rfl, hb8⟩
        have hz8 := hb8.size
        have hx8 := (hb8.block _ (by omega)).trans H7.out.2
        have H8 := Lib.hid (And.intro (H7.out.1.trans (hb8.mono hz7)) hx8)
        clear x1 x2 x3 x4 hb8 hx8
        obtain ⟨x1, x2, x3, x4⟩ := box2 H8.out.2
        have HI8 := Lib.hid (impl_insert HTI.out hTw wide key (by omega) (by omega) w8 H8.out.1 (by omega))
        go_wp2_with fail
        refine HI8.out.mono ?_
        rintro e w9 ⟨k9, c9, P9, rfl, ho9, hb9⟩
        rw [HR.out.1]
        rw [HR.out.2.2.2.2] at ho9
        obtain ⟨g1, g2, g3, g4, g5, g6, rfl, rfl⟩ := ho9.tree.slices
        have hz9 := hb9.size
        obtain ⟨W10, hW10⟩ : ∃ W10, W10 = w9.alloc (.cells #[.slice g1 g2 g3, .slice g4 g5 g6] 26) := ⟨_, rfl⟩
        have hs10 : W10.heap.size = w9.heap.size + 1 := by rw [hW10]; simp
        have hb910 : Below w9.heap.size w9 W10 := by rw [hW10]; exact (Below.refl _ _).alloc (Nat.le_refl _) _
        have hx10 := (hb910.block _ (by omega)).trans ((hb9.block _ (by omega)).trans H8.out.2)
        have hk10 : W10.heap[w9.heap.size]? = some (.cells #[.slice g1 g2 g3, .slice g4 g5 g6] 26 (0, 0)) := by rw [hW10, new_blk]
        have hxx := hx10
        have hkk := hk10
        rw [hW10] at hxx hkk
        clear x1 x2 x3 x4
        obtain ⟨x1, x2, x3, x4⟩ := box2 hxx
        obtain ⟨y1, y2, y3, y4⟩ := box2 hkk
        have HO := Lib.hid (And.intro ho9 (And.intro hb9 (And.intro hb910 hx10)))
        have HW10 := Lib.hid hW10
        clear ho9 hb9 hW10 hb910 hx10 hk10 hxx hkk
        go_wp2_with fail
        rw [← HW10.out]
        obtain ⟨wf, hwf⟩ : ∃ wf, wf = (W10.setCell ⟨w5.heap.size, 0, none⟩ (.slice g1 g2 g3)).setCell ⟨w5.heap.size, 1, none⟩ (.slice g4 g5 g6) := ⟨_, rfl⟩
        have hfb : wf.heap[w5.heap.size]? = some (.cells #[.slice g1 g2 g3, .slice g4 g5 g6] 26 (0, 0)) := by
          rw [hwf]; exact set_blk (o := 1) _ (set_blk (o := 0) _ HO.out.2.2.2)
        have hft : TreeA wf (.slice g1 g2 g3) (.slice g4 g5 g6) (Tr.insT wide key T) :=
          ((HO.out.1.later HO.out.2.2.1 (Nat.le_refl _)).same (w' := wf) (by rw [hwf]; simp) (fun q e => by have := (HO.out.1.lt q e).1; rw [hwf, set_other _ _ _ _ _ (by omega), set_other _ _ _ _ _ (by omega)])).a
        have hz35 := HB5.out.size
        have hfw : Below W3.heap.size W3 wf := by
          have h9 : Below W3.heap.size W3 W10 := HT.out.2.2.2.2.2.1.trans ((H8.out.1.trans ((HO.out.2.1.mono (by omega)).trans (HO.out.2.2.1.mono (by omega)))).mono (by omega))
          rw [hwf]
          exact (h9.setCell (by show W3.heap.size ≤ w5.heap.size; omega) _).setCell (by show W3.heap.size ≤ w5.heap.size; omega) _
        have hfz : W6.heap.size ≤ wf.heap.size := by rw [hwf]; simp; omega
        rw [← hwf]
        clear hwf
        go_roundw
        case rel => exact ⟨j + 1, Tr.insT wide key T, _, _, by omega, by go_num, Lib.hid ⟨HR.out.2.2.2.1, by have := HT.out.2.1; have := HR.out.2.1; omega, HR.out.2.2.1.trans HT.out.2.2.1, hfb, hft, hfw, hfz⟩⟩
        case measure => simp [intOf]; omega
    · have hjn : N = (j : Int) := by omega
      have HB := Lib.hid HT.out.2.2.2.2.2.1
      have hzB := HB.out.size
      have hfull : j = 0 → 1 ≤ t.full wide := fun h => Tr.full_of_room (by omega) t (by have := HX.out.2.2.2; omega)
      have K1 := fun (wx : World) (hx : Below wr.heap.size wr wx) => impl_count_a (HT.out.2.2.2.2.1.later hx (Nat.le_refl _)) hTw
      have K2 := fun (wx : World) (hx : Below wr.heap.size wr wx) => HC4.out wx (HB.out.trans (hx.mono hzB))
      have K3 := fun (wx : World) (hx : Below wr.heap.size wr wx) => HC5.out wx (HB.out.trans (hx.mono hzB))
      rw [HT.out.2.2.1] at K1
      obtain ⟨C, hC⟩ : ∃ C, C = t.count := ⟨_, rfl⟩
      obtain ⟨FL, hFL⟩ : ∃ FL, FL = t.full wide := ⟨_, rfl⟩
      rw [← hC] at K1 K2
      rw [← hFL] at K3 hfull
      have HK1 := Lib.hid K1
      have HK2 := Lib.hid K2
      have HK3 := Lib.hid K3
      have BOX9 : Hid (∀ wx : World, Below wr.heap.size wr wx → wx.heap[w5.heap.size]? = some (.cells #[.slice q1 q2 q3, .slice q4 q5 q6] 26 (0, 0)) ∧ wx.heap[w2.heap.size]? = some (.cells #[.slice b1 b2 b3, .slice b4 b5 b6] 26 (0, 0))) :=
        Lib.hid (fun wx hx => ⟨(hx.block _ (by omega)).trans HT.out.2.2.2.1, BOX.out wx (HB.out.trans (hx.mono hzB))⟩)
      have hce : ((C : Int) == (C : Int)) = true := by simp
      obtain ⟨x1, x2, -⟩ := box2 (BOX9.out wr (Below.refl _ _)).1
      obtain ⟨x3, x4, -⟩ := box2 (BOX9.out wr (Below.refl _ _)).2
      have HFU := Lib.hid hfull
      clear K1 K2 K3 hC hFL hfull hTI
      have hfin : Below w.heap.size w wr := HF.out.trans (HB.out.mono (by have := HF.out.size; omega))
      have HFIN := Lib.hid hfin
      clear hfin
      by_cases hj0 : j = 0
      · have hjp : ¬ (j : Int) > 0 := by omega
        have hjq : ¬ 0 < j := by omega
        have hfl : (FL : Int) > 0 := by have := HFU.out hj0; omega
        have hfq : 0 < FL := by omega
        clear hj0
        go_wp2_with fail
        go_region_held3 (fun x => x.cell? ⟨w5.heap.size, 0, none⟩ = some (.slice q1 q2 q3) ∧ x.cell? ⟨w5.heap.size, 1, none⟩ = some (.slice q4 q5 q6) ∧ x.cell? ⟨w2.heap.size, 0, none⟩ = some (.slice b1 b2 b3) ∧ x.cell? ⟨w2.heap.size, 1, none⟩ = some (.slice b4 b5 b6))
          (first | exact ⟨x1, x2, x3, x4⟩ | exact ⟨z1, z2, z3, z4⟩ | exact ⟨p1, p2, p3, p4⟩ | exact ⟨l1, l2, l3, l4⟩ | go_keep)
          (first
            | (go_at_call 17; refine (HK3.out _ (HB22.out)).mono ?_; rintro e w23 ⟨rfl, hb23⟩; have hB23 : Below wr.heap.size wr w23 := HB22.out.trans (hb23.mono (by have := HB22.out.size; omega)); obtain ⟨l1, l2, -⟩ := box2 (BOX9.out w23 hB23).1; obtain ⟨l3, l4, -⟩ := box2 (BOX9.out w23 hB23).2; have HB23 := Lib.hid hB23; clear hb23 hB23)
            | (go_at_call 15; refine (HK2.out _ (HB21.out)).mono ?_; rintro e w22 ⟨rfl, hb22⟩; have hB22 : Below wr.heap.size wr w22 := HB21.out.trans (hb22.mono (by have := HB21.out.size; omega)); obtain ⟨p1, p2, -⟩ := box2 (BOX9.out w22 hB22).1; obtain ⟨p3, p4, -⟩ := box2 (BOX9.out w22 hB22).2; have HB22 := Lib.hid hB22; clear hb22 hB22)
            | (go_at_call 15; refine (HK1.out _ ((Below.refl _ _).drew)).mono ?_; rintro e w21 ⟨rfl, hb21⟩; have hB21 : Below wr.heap.size wr w21 := ((Below.refl _ _).drew).trans hb21; obtain ⟨z1, z2, -⟩ := box2 (BOX9.out w21 hB21).1; obtain ⟨z3, z4, -⟩ := box2 (BOX9.out w21 hB21).2; have HB21 := Lib.hid hB21; clear hb21 hB21))
        go_wp2_with fail
        go_ret
        first
          | exact ⟨rfl, HFIN.out.trans (HB23.out.mono (by have := HFIN.out.size; omega))⟩
          | exact ⟨ret_bool (by simp [hfl]), HFIN.out.trans (HB23.out.mono (by have := HFIN.out.size; omega))⟩
      · have hjp : (j : Int) > 0 := by omega
        have hjq : 0 < j := by omega
        clear hj0
        go_wp2_with fail
        refine wp_region_held_drew (S := (fun x => x.cell? ⟨w5.heap.size, 0, none⟩ = some (.slice q1 q2 q3) ∧ x.cell? ⟨w5.heap.size, 1, none⟩ = some (.slice q4 q5 q6) ∧ x.cell? ⟨w2.heap.size, 0, none⟩ = some (.slice b1 b2 b3) ∧ x.cell? ⟨w2.heap.size, 1, none⟩ = some (.slice b4 b5 b6))) (by kernel_rfl) ?_ (fun hHeld => ?_)
        · exact ⟨x1, x2, x3, x4⟩
        refine wpAnyH_take (i := 0) (v := ?_) rfl (by kernel_rfl) (by kernel_rfl) (by kernel_rfl) (fun _ _ _ h => h) (Or.inl ⟨by rfl, ?_⟩) (by assumption) ?_
        rotate_left
        · (intro w hSw; (try dsimp only at hSw); go_simp; try with_reducible rfl)
        (try dsimp only [Act.put]); (try simp only [Act.put, List.setIfInBounds_toArray, List.set_cons_zero, List.set_cons_succ])
        refine wpAnyH_take (i := 2) (v := ?_) rfl (by kernel_rfl) (by kernel_rfl) (by kernel_rfl) (fun _ _ _ h => h) (Or.inl ⟨by rfl, ?_⟩) (by assumption) ?_
        rotate_left
        · (intro w hSw; (try dsimp only at hSw); go_simp; try with_reducible rfl)
        (try dsimp only [Act.put]); (try simp only [Act.put, List.setIfInBounds_toArray, List.set_cons_zero, List.set_cons_succ])
        refine wpAnyH_ready (rs := [1]) (by kernel_rfl) (by simp) ?_
        refine AllReadyH.cons rfl (fun K hK => ?_) AllReadyH.nil
        go_simp
        (go_at_call 15; refine (HK1.out _ ((Below.refl _ _).drew)).mono ?_; rintro e w21 ⟨rfl, hb21⟩; have hB21 : Below wr.heap.size wr w21 := ((Below.refl _ _).drew).trans hb21; obtain ⟨z1, z2, -⟩ := box2 (BOX9.out w21 hB21).1; obtain ⟨z3, z4, -⟩ := box2 (BOX9.out w21 hB21).2; have HB21 := Lib.hid hB21; clear hb21 hB21)
        try dsimp only
        refine hK.out _ _ ⟨z1, z2, z3, z4⟩ (fun hHeld => ?_)
        clear hK K
        (try dsimp only [Act.put]); (try simp only [Act.put, List.setIfInBounds_toArray, List.set_cons_zero, List.set_cons_succ])
        refine wpAnyH_ready (rs := [3]) (by kernel_rfl) (by simp) ?_
        refine AllReadyH.cons rfl (fun K hK => ?_) AllReadyH.nil
        go_simp
        (go_at_call 15; refine (HK2.out _ (HB21.out)).mono ?_; rintro e w22 ⟨rfl, hb22⟩; have hB22 : Below wr.heap.size wr w22 := HB21.out.trans (hb22.mono (by have := HB21.out.size; omega)); obtain ⟨p1, p2, -⟩ := box2 (BOX9.out w22 hB22).1; obtain ⟨p3, p4, -⟩ := box2 (BOX9.out w22 hB22).2; have HB22 := Lib.hid hB22; clear hb22 hB22)
        try dsimp only
        refine hK.out _ _ ⟨p1, p2, p3, p4⟩ (fun hHeld => ?_)
        clear hK K
        (try dsimp only [Act.put]); (try simp only [Act.put, List.setIfInBounds_toArray, List.set_cons_zero, List.set_cons_succ])
        refine wpAnyH_take (i := 4) (v := ?_) rfl (by kernel_rfl) (by kernel_rfl) (by kernel_rfl) (fun _ _ _ h => h) (Or.inl ⟨by rfl, ?_⟩) (by assumption) ?_
        rotate_left
        · (intro w hSw; (try dsimp only at hSw); go_simp; try with_reducible rfl)
        (try dsimp only [Act.put]); (try simp only [Act.put, List.setIfInBounds_toArray, List.set_cons_zero, List.set_cons_succ])
        refine wpAnyH_take (i := 5) (v := ?_) rfl (by kernel_rfl) (by kernel_rfl) (by kernel_rfl) (fun _ _ _ h => h) (Or.inl ⟨by rfl, ?_⟩) (by assumption) ?_
        rotate_left
        · (intro w hSw; (try dsimp only at hSw); go_simp; try with_reducible rfl)
        (try dsimp only [Act.put]); (try simp only [Act.put, List.setIfInBounds_toArray, List.set_cons_zero, List.set_cons_succ])
        refine wpAnyH_take (i := 6) (v := ?_) rfl (by kernel_rfl) (by kernel_rfl) (by kernel_rfl) (fun _ _ _ h => h) (Or.inl ⟨by rfl, ?_⟩) (by assumption) ?_
        rotate_left
        · (intro w hSw; (try dsimp only at hSw); go_simp; try with_reducible rfl)
        (try dsimp only [Act.put]); (try simp only [Act.put, List.setIfInBounds_toArray, List.set_cons_zero, List.set_cons_succ])
        refine wpAnyH_take (i := 7) (v := ?_) rfl (by kernel_rfl) (by kernel_rfl) (by kernel_rfl) (fun _ _ _ h => h) (Or.inl ⟨by rfl, ?_⟩) (by assumption) ?_
        rotate_left
        · (intro w hSw; (try dsimp only at hSw); go_simp; try with_reducible rfl)
        (try dsimp only [Act.put]); (try simp only [Act.put, List.setIfInBounds_toArray, List.set_cons_zero, List.set_cons_succ])
        refine wpAnyH_take (i := 8) (v := ?_) rfl (by kernel_rfl) (by kernel_rfl) (by kernel_rfl) (fun _ _ _ h => h) (Or.inl ⟨by rfl, ?_⟩) (by assumption) ?_
        rotate_left
        · (intro w hSw; (try dsimp only at hSw); go_simp; try with_reducible rfl)
        (try dsimp only [Act.put]); (try simp only [Act.put, List.setIfInBounds_toArray, List.set_cons_zero, List.set_cons_succ])
        refine wpAnyH_take (i := 9) (oi := { dst := some 86, op := Op.load 26 (Operand.tmp 5), type := 26, pos := "laws.go:487", after := #[{ on := 8, ground := Ground.guard }], guard := some (8, false) }) (v := undef) rfl (by kernel_rfl) (by kernel_rfl) (by kernel_rfl) (fun _ _ _ h => h) (Or.inr ⟨by rfl, rfl⟩) (by assumption) ?_
        (try dsimp only [Act.put]); (try simp only [Act.put, List.setIfInBounds_toArray, List.set_cons_zero, List.set_cons_succ])
        refine wpAnyH_take (i := 10) (oi := { dst := some 87, op := Op.move (Operand.tmp 6), type := 3, pos := "laws.go:487", after := #[{ on := 8, ground := Ground.guard }], guard := some (8, false) }) (v := undef) rfl (by kernel_rfl) (by kernel_rfl) (by kernel_rfl) (fun _ _ _ h => h) (Or.inr ⟨by rfl, rfl⟩) (by assumption) ?_
        (try dsimp only [Act.put]); (try simp only [Act.put, List.setIfInBounds_toArray, List.set_cons_zero, List.set_cons_succ])
        refine wpAnyH_ready (rs := [11]) (by kernel_rfl) (by simp) ?_
        refine AllReadyH.cons (o := { dst := some 88, op := Op.call { callee := Callee.value (Operand.func 17), args := #[Operand.tmp 86, Operand.tmp 87], argTypes := #[26, 3] }, type := 3, pos := "laws.go:487", after := #[{ on := 9, ground := Ground.data }, { on := 10, ground := Ground.data }, { on := 8, ground := Ground.chain }, { on := 8, ground := Ground.guard }], guard := some (8, false) }) rfl (fun K hK => ?_) AllReadyH.nil
        go_simp
        refine hK.out _ _ (by assumption) (fun _ => ?_)
        clear hK K
        (try dsimp only [Act.put]); (try simp only [Act.put, List.setIfInBounds_toArray, List.set_cons_zero, List.set_cons_succ])
        refine wpAnyH_take (i := 12) (oi := { dst := some 89, op := Op.binOp BinOp.gtr 3 (Operand.tmp 88) (Operand.const (Value.int IntKind.i64 0)) 3, type := 4, pos := "laws.go:487", after := #[{ on := 11, ground := Ground.data }, { on := 8, ground := Ground.guard }], guard := some (8, false) }) (v := undef) rfl (by kernel_rfl) (by kernel_rfl) (by kernel_rfl) (fun _ _ _ h => h) (Or.inr ⟨by rfl, rfl⟩) (by assumption) ?_
        (try dsimp only [Act.put]); (try simp only [Act.put, List.setIfInBounds_toArray, List.set_cons_zero, List.set_cons_succ])
        refine wpAnyH_take (i := 13) (oi := { dst := some 90, op := Op.pick (Operand.tmp 85) (Operand.const (Value.bool true)) (Operand.tmp 89), type := 4, pos := "laws.go:487", after := #[{ on := 8, ground := Ground.data }, { on := 12, ground := Ground.data }, { on := 5, ground := Ground.guard }], guard := some (5, true) }) (v := ?_) rfl (by kernel_rfl) (by kernel_rfl) (by kernel_rfl) (fun _ _ _ h => h) (Or.inl ⟨by rfl, ?_⟩) (by assumption) ?_
        rotate_left
        · (intro w hSw; (try dsimp only at hSw); go_simp; try with_reducible rfl)
        (try dsimp only [Act.put]); (try simp only [Act.put, List.setIfInBounds_toArray, List.set_cons_zero, List.set_cons_succ])
        refine wpAnyH_take (i := 14) (oi := { dst := some 91, op := Op.pick (Operand.tmp 82) (Operand.tmp 90) (Operand.const (Value.bool false)), type := 4, pos := "laws.go:487", after := #[{ on := 5, ground := Ground.data }, { on := 13, ground := Ground.data }], guard := none }) (v := ?_) rfl (by kernel_rfl) (by kernel_rfl) (by kernel_rfl) (fun _ _ _ h => h) (Or.inl ⟨by rfl, ?_⟩) (by assumption) ?_
        rotate_left
        · (intro w hSw; (try dsimp only at hSw); go_simp; try with_reducible rfl)
        (try dsimp only [Act.put]); (try simp only [Act.put, List.setIfInBounds_toArray, List.set_cons_zero, List.set_cons_succ])
        refine wpAnyH_take (i := 15) (oi := { dst := some 4, op := Op.assign (Operand.tmp 91), type := 4, pos := "laws.go:487", after := #[{ on := 14, ground := Ground.data }, { on := 11, ground := Ground.chain }, { on := 0, ground := Ground.phase }, { on := 1, ground := Ground.phase }, { on := 2, ground := Ground.phase }, { on := 3, ground := Ground.phase }, { on := 4, ground := Ground.phase }, { on := 5, ground := Ground.phase }, { on := 6, ground := Ground.phase }, { on := 7, ground := Ground.phase }, { on := 8, ground := Ground.phase }, { on := 9, ground := Ground.phase }, { on := 10, ground := Ground.phase }, { on := 11, ground := Ground.phase }, { on := 12, ground := Ground.phase }, { on := 13, ground := Ground.phase }, { on := 14, ground := Ground.phase }], guard := none }) (v := ?_) rfl (by kernel_rfl) (by kernel_rfl) (by kernel_rfl) (fun _ _ _ h => h) (Or.inl ⟨by rfl, ?_⟩) (by assumption) ?_
        rotate_left
        · (intro w hSw; (try dsimp only at hSw); go_simp; try with_reducible rfl)
        (try dsimp only [Act.put]); (try simp only [Act.put, List.setIfInBounds_toArray, List.set_cons_zero, List.set_cons_succ])
        refine wpAnyH_done (by kernel_rfl) ?_ _
        (
          go_wp2_with fail
          go_ret
          first
            | exact ⟨rfl, HFIN.out.trans (HB22.out.mono (by have := HFIN.out.size; omega))⟩
            | exact ⟨ret_bool (by simp), HFIN.out.trans (HB22.out.mono (by have := HFIN.out.size; omega))⟩)
end Go.Proofs.Ytgbgdanbdbojaaa

/- The statement on room, from the walk of its law. -/
namespace Go.Proofs.Ytgbgdanbdbojaaa.fnRoomRowP
open Go.ChangeShapes Go.WideShapes Go.ChangeAt Go.RowKit
set_option linter.unusedVariables false

theorem own : ownKnob Try.prog.godebug = none := by kernel_rfl
theorem laidOut : laidOutB Try.prog = true := by kernel_rfl

set_option maxRecDepth 100000 in
set_option maxHeartbeats 1000000 in
theorem lifted (os : Os) (started : os.Started) (H : Type) (enc : TypeId × Value → H) :
    ReturnsInHanded {} Try.checked os 8 .any (Rows.fnRoomSpec.pre6 enc Try.prog Try.f8 Rows.fnRoomRow.domain false) (Rows.fnRoomSpec.post enc Try.prog Try.f8 false true false false) := by
  refine returnsInHanded_of_change (C := Try.checked) own started (by kernel_rfl) Try.func8
    (ChangeSpec.witness6 (enc := enc) (C := Try.checked) false ⟨#[], #[.slice none 0 0, .slice none 0 0], []⟩ 8 (by kernel_rfl) (by kernel_rfl) (by kernel_rfl) (by kernel_rfl)) ?_
  intro W base args ds gs before hval0 hW hcnd _
  have hval : ∀ (j : Nat) t v, Try.f8.params[j]? = some t → args[j]? = some v → Value.okWide Try.prog W .any base t v := hval0
  have hW' := hW
  obtain ⟨p, q, hA0, hV, rfl, hfz, hnd⟩ := hW
  have hA : DataW.TrodAll enc Try.prog W 0 (fun _ => true) true Try.f8.params.toList args.toList ds p := hA0
  rw [Try.params8] at hA hval
  obtain ⟨v0, vs0, d0, ds0, p0, q0, hargs, rfl, rfl, h0, r0⟩ := trodAll_cons hA
  obtain ⟨v1, vs1, d1, ds1, p1, q1, rfl, rfl, rfl, h1, r1⟩ := trodAll_cons r0
  obtain ⟨rfl, rfl, rfl⟩ := trodAll_nil r1
  obtain rfl : args = #[v0, v1] := by cases args; simp_all
  obtain ⟨rfl, rfl⟩ := trodVars_none hV
  obtain ⟨a0, len0, cap0, rfl⟩ := okWide_slice Try.underlying22 (hval 0 22 v0 rfl rfl)
  obtain ⟨a1, len1, cap1, rfl⟩ := okWide_slice Try.underlying22 (hval 1 22 v1 rfl rfl)
  have k0 := h0
  have k1 := h1
  have lt0 : ∀ x ∈ p0, x.block < W.heap.size := by obtain ⟨m, hm⟩ := k0; exact DataW.trod_lt m _ _ _ hm
  have lt1 : ∀ x ∈ p1, x.block < W.heap.size := by obtain ⟨m, hm⟩ := k1; exact DataW.trod_lt m _ _ _ hm
  obtain ⟨bs0, hb0⟩ : ∃ bs, BytesIn W W.heap.size (.slice a0 len0 cap0) bs := by
    obtain ⟨fuel, hf⟩ := h0
    exact bytes_of_trod fuel (fun _ => rfl) hf
  obtain ⟨bs1, hb1⟩ : ∃ bs, BytesIn W W.heap.size (.slice a1 len1 cap1) bs := by
    obtain ⟨fuel, hf⟩ := h1
    exact bytes_of_trod fuel (fun _ => rfl) hf
  clear hA0 hval0
  refine (fnRoom_c hb0 hb1).mono fun e W' ⟨he, bel⟩ => ?_
  subst he
  exact ⟨_, rfl, _, _, _, [], _, [], hW', trodAll_mk1 (shut_bool Try.underlying4 _), (trodAll_cons_mk (Below.trod laidOut (by kernel_rfl) (of_decide_eq_true (by kernel_rfl)) k0 bel lt0) (trodAll_cons_mk (Below.trod laidOut (by kernel_rfl) (of_decide_eq_true (by kernel_rfl)) k1 bel lt1) trodAll_mk0)), rfl, bel.frame _, fun h => by cases h⟩

theorem closed : joinedFacts Try.prog 8 Try.f8 Rows.fnRoomSpec Rows.fnRoomRow = true := by
  unfold joinedFacts
  exact band (band (band (band (band (band (band (by kernel_rfl) fact_enter) fact_lifts) fact_make) (by kernel_rfl)) (by kernel_rfl)) (by kernel_rfl)) (by kernel_rfl)

theorem over : Rows.fnRoomRow.holds Try.pinned (OpenSpec.ofChange Rows.fnRoomSpec) :=
  OpenClaim.holds_of_wide 8 Try.f8 rfl rfl rfl rfl rfl rfl rfl ⟨rfl, rfl, rfl, rfl, rfl⟩ rfl rfl rfl rfl rfl (by kernel_rfl) Try.func8 closed
    (of_decide_eq_true (by kernel_rfl)) (by unfold Func.isWrapper; first | (rw [if_pos (by decide +kernel)]; kernel_rfl) | (rw [if_neg (by decide +kernel)]; exact ⟨rfl, rfl⟩))
    (fun os started H enc _ => lifted os started H enc)
end Go.Proofs.Ytgbgdanbdbojaaa.fnRoomRowP

/- For every two slices of bytes, the law on room returns true and leaves its arguments as they were; no conditions. -/
namespace Go.Proofs.Ytgbgdanbdbojaaa

theorem roomLaw_said : Rows.FnRoomSaid := fnRoomRowP.over
end Go.Proofs.Ytgbgdanbdbojaaa

/- The contract of the program's BinKeys. -/
import Derived.Test.YtodcapgmhginoaaProg
import Derived.Test.YtodcapgmhginoaaBvS0
import Derived.Test.YtodcapgmhginoaaBvS1
import Derived.Test.YtodcapgmhginoaaBvS2
import Derived.Test.YtodcapgmhginoaaBvS6
import Derived.Test.YtodcapgmhginoaaBvS3
import Derived.Test.YtodcapgmhginoaaBvS21
import Derived.Test.YtodcapgmhginoaaBvS20
import Derived.Test.YtodcapgmhginoaaBvS23
import Derived.Test.YtodcapgmhginoaaBvS19
import Derived.Test.YtodcapgmhginoaaBvS7
import Derived.Maps.OwnIn
import Derived.RangeFuncNested
import Derived.Shelf.RegionOpen
import Derived.WalkKit
import Derived.OwnWalkIn
import Derived.TacticsInMore
namespace Go.Proofs.Ytodcapgmhginoaa
open Go.RowKit
attribute [local go_sem] Oper.semAt_some

def two (n : Nat) : Nat := min n 2
theorem cut_nil (k : Int) (r : Bool) : (Bt.mk k r []).cut two = .mk k r [] := rfl
theorem cut_one (k : Int) (r : Bool) (a : Bt) : (Bt.mk k r [a]).cut two = .mk k r [a.cut two] := rfl
theorem cut_two (k : Int) (r : Bool) (a b : Bt) (q : List Bt) : (Bt.mk k r (a :: b :: q)).cut two = .mk k r [a.cut two, b.cut two] := by
  simp only [Bt.cut, Bt.cuts, List.length_cons, two]
  rw [show min (q.length + 1 + 1) 2 = 2 by omega]; rfl

/-- The keys that one comes by. -/
def keysT : List (Ro (Int × Bool) × Nat) → List Int
  | [] => []
  | f :: r => (if f.2 = 1 then [f.1.lab.1] else []) ++ keysT r
theorem keysT_append (a b : List (Ro (Int × Bool) × Nat)) : keysT (a ++ b) = keysT a ++ keysT b := by
  induction a with
  | nil => rfl
  | cons x r ih => simp [keysT, ih]

theorem keysT_trn : ∀ (t : Bt) (r : Ro (Int × Bool)), r.bt = t.cut two → keysT r.trn = t.keys
  | .mk k rd [], .mk x nb no c, h => by
    rw [cut_nil] at h
    simp only [Ro.bt, Bt.mk.injEq] at h
    obtain ⟨_, _, h⟩ := h
    have hc : c.length = 0 := by have := congrArg List.length h; rw [Ro.bts_length] at this; exact this
    rw [List.length_eq_zero_iff.1 hc]
    simp [Ro.trn, Ro.trns, keysT, Bt.keys_nil]
  | .mk k rd [a], .mk x nb no c, h => by
    rw [cut_one] at h
    simp only [Ro.bt, Bt.mk.injEq] at h
    obtain ⟨hk, _, h⟩ := h
    match c, h with
    | [], h => simp [Ro.bts] at h
    | [y], h =>
      simp only [Ro.bts, List.cons.injEq, and_true] at h
      have := keysT_trn a y h
      simp [Ro.trn, Ro.trns, keysT, keysT_append, this, Bt.keys_one, Ro.lab, hk]
    | y :: z :: q, h => simp [Ro.bts] at h
  | .mk k rd (a :: b :: q), .mk x nb no c, h => by
    rw [cut_two] at h
    simp only [Ro.bt, Bt.mk.injEq] at h
    obtain ⟨hk, _, h⟩ := h
    match c, h with
    | [], h => simp [Ro.bts] at h
    | [y], h => simp [Ro.bts] at h
    | [y, z], h =>
      simp only [Ro.bts, List.cons.injEq, and_true] at h
      have h1 := keysT_trn a y h.1
      have h2 := keysT_trn b z h.2
      simp [Ro.trn, Ro.trns, keysT, keysT_append, h1, h2, Bt.keys_two, Ro.lab, hk]
    | y :: z :: v :: q, h => simp [Ro.bts] at h

theorem firstTwoKids_c (b o : Nat) (a : Option Addr) (n c : Nat) (hnc : n ≤ c) (w : World) (h : w.cell? ⟨b, o + 2, none⟩ = some (.slice a n c)) :
    Calls Try.prog 79 #[.pointer (some ⟨b, o, none⟩)] w fun e w' => e = .returned (.slice a (two n) (two n)) ∧ Below w.heap.size w w' := by
  rcases Nat.lt_or_ge 2 n with h2 | h2
  · have h2' : (2 : Int) < (n : Int) := by omega
    have e : two n = 2 := by unfold two; omega
    have hc2 : (2 : Int) ≤ (c : Int) := by omega
    rw [e]
    clear e
    go_enter Try.func79, Try.ntmps79
    go_wp2_with fail
    go_ret
    exact ⟨rfl, Below.refl _ _⟩
  · have h2' : ¬ (2 : Int) < (n : Int) := by omega
    have e : two n = n := by unfold two; omega
    have hc2 : (n : Int) ≤ (c : Int) := by omega
    rw [e]
    clear e
    go_enter Try.func79, Try.ntmps79
    go_wp2_with fail
    go_ret
    exact ⟨rfl, Below.refl _ _⟩

theorem ownsRow_keepB {w w' : World} {base : Nat} {e : TypeId} {size n : Nat} {v : Value} {xs : List Value} (h : w.ownsRow base e size v n xs) (hb : ∀ k, v.ownBlock = some k → w'.heap[k]? = w.heap[k]?) : w'.ownsRow base e size v n xs := by
  obtain ⟨h1, h2 | ⟨g, cap, cur, hv, hbb, hg, hr⟩⟩ := h
  · exact ⟨h1, .inl h2⟩
  · exact ⟨h1, .inr ⟨g, cap, cur, hv, hbb, (hb g (by rw [hv]; rfl)).trans hg, hr⟩⟩

set_option maxRecDepth 100000 in
set_option maxHeartbeats 4000000 in
theorem impl_binKeys {w : World} {lo : Nat} {cv : Value} {t : Bt} (h : BinNew w lo cv t) (hw : t.weight ≤ 1048576) (w' : World) (hbw : Below w.heap.size w w') :
    Calls Try.prog 38 #[.agg #[.int .i64 t.key, .bool t.red, cv]] w' fun e w'' => ∃ v, e = .returned v ∧ IntsOwn w'' w'.heap.size v t.keys ∧ Below w'.heap.size w' w'' := by
  have h' := h.later hbw (Nat.le_refl _)
  obtain ⟨gv, rfl⟩ := h.shown
  obtain ⟨W1, hW1⟩ : ∃ W1, W1 = w'.alloc (.cells #[.int .i64 t.key, .bool t.red, .slice (some ⟨gv, 0, none⟩) t.cs.length t.cs.length] 48) := ⟨_, rfl⟩
  have hs1 : W1.heap.size = w'.heap.size + 1 := by rw [hW1]; simp
  have hb1 : Below w'.heap.size w' W1 := by rw [hW1]; exact (Below.refl _ _).alloc (Nat.le_refl _) _
  have k1 : W1.heap[w'.heap.size]? = some (.cells #[.int .i64 t.key, .bool t.red, .slice (some ⟨gv, 0, none⟩) t.cs.length t.cs.length] 48 (0, 0)) := by rw [hW1, new_blk]
  obtain ⟨c0, c1, c2, -⟩ := box3 k1
  obtain ⟨r, hr1, hr2, hr3, hra, hlab⟩ := ro_of_new (P := Try.prog) (g := 79) (k := fun x => (x.1, two x.2.1, two x.2.1)) (f := two) (fun n => by unfold two; omega) (fun a n c => ⟨rfl, fun _ => rfl⟩) (w := W1)
    (fun b o a n c hnc hc W hW => (firstTwoKids_c b o a n c hnc W (by rw [below_cell hW (World.block_lt_of_cell? W1 _ hc)]; exact hc)).mono (fun e W' hh => hh)) (h'.later hb1 (Nat.le_refl _)) w'.heap.size 0 ⟨_, _, k1⟩ c0 c1 c2
  have hs : r.siz ≤ 1048576 := by rw [Ro.siz_bt, hr3]; exact Nat.le_trans (Bt.cut_weight _ t) hw
  have hcnt := keysT_trn t r hr3
  have hkl := Bt.keys_le t
  have hcl : t.keys.length ≤ 1048576 := by omega
  have hra' : r.addr = ⟨w'.heap.size, 0, none⟩ := by simp [Ro.addr, hr1, hr2]
  obtain ⟨i0, hi0, hz0, hz1, hz2⟩ := info_parts Try.appInfo
  -- the boxes of the iterator
  obtain ⟨W2, hW2⟩ : ∃ W2, W2 = W1.alloc (.cells #[.slice none 0 0] 22) := ⟨_, rfl⟩
  have hs2 : W2.heap.size = w'.heap.size + 2 := by rw [hW2]; simp; omega
  have hb2 : Below W1.heap.size W1 W2 := by rw [hW2]; exact (Below.refl _ _).alloc (Nat.le_refl _) _
  have k2 : W2.heap[w'.heap.size + 1]? = some (.cells #[.slice none 0 0] 22 (0, 0)) := by rw [hW2, ← hs1]; exact new_blk _ _
  have htu := turnsB_c (g := 79) W2 ⟨w'.heap.size, 0, none⟩
  obtain ⟨W4, hW4⟩ : ∃ W4, W4 = (W2.alloc (.cells #[.pointer (some ⟨w'.heap.size, 0, none⟩)] 88)).alloc (.cells #[.func (.func 79) #[] #[]] 89) := ⟨_, rfl⟩
  rw [← hW4] at htu
  have hs4 : W4.heap.size = w'.heap.size + 4 := by rw [hW4]; simp; omega
  have hb24 : Below W2.heap.size W2 W4 := by rw [hW4]; exact ((Below.refl _ _).alloc (Nat.le_refl _) _).alloc (by simp) _
  have hb14 : Below W1.heap.size W1 W4 := hb2.trans (hb24.mono (by omega))
  have k4 : W4.heap[w'.heap.size + 1]? = some (.cells #[.slice none 0 0] 22 (0, 0)) := (hb24.block _ (by omega)).trans k2
  have g2 : W4.heap[W2.heap.size]? = some (.cells #[.pointer (some r.addr)] 88 (0, 0)) := by rw [hW4, old_blk _ _ _ (by simp), new_blk, hra']
  have g3 : W4.heap[W2.heap.size + 1]? = some (.cells #[.func (.func 79) #[] #[]] 89 (0, 0)) := by
    rw [hW4, show W2.heap.size + 1 = (W2.alloc (.cells #[.pointer (some ⟨w'.heap.size, 0, none⟩)] 88)).heap.size by simp, new_blk]
  have hit := turnsB_iter (enters_of Try.func79 (by kernel_rfl) rfl) hra hs hb14 g2 g3
  -- the cells of a node, wherever the world is kept
  have HIT := Lib.hid hit
  have HCNT := Lib.hid hcnt
  have HTU := Lib.hid htu
  have HW1 := Lib.hid hW1
  have HW2 := Lib.hid hW2
  have HB := Lib.hid (And.intro hb1 (And.intro hb14 k4))
  have HS := Lib.hid (And.intro hs1 (And.intro hs2 hs4))
  have HLAB := Lib.hid hlab
  clear hit hcnt htu hW1 hW2 hW4 hb1 hb2 hb24 hb14 k1 k2 k4 g2 g3 c0 c1 c2 h h' hr1 hr2 hr3 hra hra' hs hkl hs1 hs2 hs4 hbw hlab
  refine (callsIn_wide (n := 9)).1 (callsIn_of_wp_marks Try.func38 rfl trivial ?_ rfl)
  simp only [Try.ntmps38, List.size_toArray, List.length_cons, List.length_nil, Nat.reduceAdd, Nat.reduceSub, Array.replicate_succ, Array.replicate_zero, List.push_toArray, List.append_toArray, List.nil_append, List.cons_append]
  gi_wp2
  rw [← HW1.out, ← HW2.out]
  refine ⟨trivial, ?_⟩
  refine ((callsIn_wide (n := 8)).2 HTU.out).mono ?_
  rintro e w5 ⟨rfl, rfl⟩
  have hs1 := HS.out.1
  have hs2 := HS.out.2.1
  have hs4 := HS.out.2.2
  rw [hs2]
  rw [hs2] at HIT
  clear hs2
  gi_wp2
  refine wp_loop (fb := #[]) (lb := #[.pointer (some ⟨w'.heap.size + 2, 0, none⟩), .pointer (some ⟨w'.heap.size + 2 + 1, 0, none⟩)]) rfl (enters_of Try.func110 (by kernel_rfl) rfl) HIT.out (Keep.refl _ _) (fun x => rfl)
    (fun k => k < w5.heap.size ∧ k ≠ w'.heap.size + 1) (fun k h => by omega) (fun k h => by omega)
    (fun pre Pv W => ¬ Pv (w'.heap.size + 1) ∧ ∃ v, W.heap[w'.heap.size + 1]? = some (.cells #[v] 22 (0, 0)) ∧ IntsOwn W (w'.heap.size + 4) v (keysT pre) ∧ ∀ k, v.ownBlock = some k → ¬ Pv k)
    (fun c pre Pv W => False)
    (fun pre Pv A Pv' B h hk hp => by
      obtain ⟨h1, v, h2, h3, h4⟩ := h
      have l2 := (Array.getElem?_eq_some_iff.1 h2).1
      refine ⟨fun h => ?_, v, (hk.block _ l2 h1).trans h2, ownsRow_keepB h3 (fun k e => hk.block _ (h3.lt k e).2 (h4 k e)), fun k e h => ?_⟩
      · rcases hp _ h with h | h
        · exact h1 h
        · omega
      · rcases hp _ h with h | h
        · exact h4 k e h
        · have := (h3.lt k e).2; omega)
    (fun c pre Pv A Pv' B h hk hp => h)
    ⟨by omega, _, HB.out.2.2, ⟨rfl, .inl ⟨rfl, rfl⟩⟩, fun k e => by cases e⟩
    (fun x => { tmps := #[.agg #[.int .i64 t.key, .bool t.red, .slice (some ⟨gv, 0, none⟩) t.cs.length t.cs.length], .pointer (some ⟨w'.heap.size, 0, none⟩), .slice none 0 0, .pointer (some ⟨w'.heap.size + 1, 0, none⟩), .pointer (some x.1.addr), .int .i64 x.2, .func (.func 110) #[] #[.pointer (some ⟨w'.heap.size + 2, 0, none⟩), .pointer (some ⟨w'.heap.size + 2 + 1, 0, none⟩)], .pointer (some x.1.addr), .int .i64 x.2, undef, undef, undef, undef, undef, undef, undef, undef, undef, undef], defers := [] })
    ?assign ?body ?done ?stop
  case assign =>
    intro l' m x W' K hK
    dsimp only [turnEnc]
    gi_wp2
    exact hK
  case body =>
    rintro l m pre x Pv W ⟨h1, v, h2, h3, h4⟩ hkW hsub hbnd hp
    obtain ⟨f, p⟩ := x
    obtain ⟨va, vc, rfl⟩ := IntsOwn.shown h3
    obtain ⟨c1, f1⟩ := box1 h2
    have hmem : (f, p) ∈ r.trn := by obtain ⟨q, hq⟩ := hp; rw [← hq]; simp
    have hcl0 := (HLAB.out _ hmem).1
    have hfb : f.nb < W1.heap.size := World.block_lt_of_cell? W1 _ hcl0
    have c2 : W.cell? ⟨f.nb, f.no, none⟩ = some (.int .i64 f.lab.1) := by
      rw [World.cell?_of_block (w := W1) (a := ⟨f.nb, f.no, none⟩) ((hkW.block f.nb (by omega) ⟨by omega, by omega⟩).trans (HB.out.2.1.block f.nb hfb))]
      exact hcl0
    have hle : (keysT pre).length + (keysT [(f, p)]).length ≤ 1048576 := by
      obtain ⟨q, hr⟩ := hp
      have := HCNT.out
      rw [← hr, keysT_append, keysT_append] at this
      have h := congrArg List.length this
      simp only [List.length_append] at h
      omega
    have hnx : keysT (pre ++ [(f, p)]) = keysT pre ++ keysT [(f, p)] := keysT_append _ _
    have hszW : w'.heap.size + 4 ≤ W.heap.size := by have := hkW.size; omega
    have HNX := Lib.hid hnx
    have HH := Lib.hid (And.intro h2 (And.intro h3 h4))
    have HBND := Lib.hid hbnd
    obtain ⟨z, hz⟩ : ∃ z, z = f.lab.1 := ⟨_, rfl⟩
    rw [← hz] at c2
    have HZ := Lib.hid hz
    unfold Ro.addr
    clear hnx h2 h3 h4 hp hsub hbnd hkW hmem hcl0 hz
    by_cases hp1 : p = 1
    · have hpb : ((p : Int) == 1) = true := by simp [hp1]
      have hb : keysT (pre ++ [(f, p)]) = keysT pre ++ [z] := by rw [HNX.out, HZ.out]; simp [keysT, hp1]
      have HBB := Lib.hid hb
      have hle' : (keysT pre).length + 1 ≤ 1048576 := by have h := hle; simp [keysT, hp1] at h; omega
      clear hb hle hp1
      obtain ⟨WA, hWA⟩ : ∃ WA, WA = W.alloc (.cells #[.int .i64 z] 3) := ⟨_, rfl⟩
      have hfol : Try.prog.follows Departure.mixedOrders = true := by kernel_rfl
      have hown : WA.drew.ownsRow (w'.heap.size + 4) 3 1 (.slice va (keysT pre).length vc) (keysT pre).length ((keysT pre).map (Value.int .i64)) := by rw [hWA]; exact IntsOwn.alloc' HH.out.2.1 _
      have hnews : ∀ (j : Nat) u, ([Value.int .i64 z] : List Value)[j]? = some u → WA.drew.cell? ((⟨W.heap.size, 0, none⟩ : Addr).add j) = some u := fun j u hj => by
        rw [hWA]
        exact (World.news_of_block (w := W.alloc (.cells #[.int .i64 z] 3)) (cs := #[.int .i64 z]) (t := 3) (fr := (0, 0)) (heap_alloc_new W _)) j u hj
      obtain ⟨v8, w8, hrun8, hown8, hgrow8, hnil8, hat8⟩ := run_append_own_at (P := Try.prog) WA.drew (w'.heap.size + 4) 22 22 3 i0 _ 1 8 Try.underlying22 hi0 hz0 hz1 hz2 rfl (by decide) _ _ _ hown ⟨W.heap.size, 0, none⟩ 1 1 [.int .i64 z] rfl hnews (by simp [Value.oneCell']) (by unfold maxLen; omega) (by omega) (by show w'.heap.size + 4 ≤ WA.heap.size; rw [hWA]; simp; omega)
      obtain ⟨g8, cap8, rfl, _, _⟩ := hown8.form (by omega)
      obtain ⟨R8, hrunX⟩ : ∃ R8, ((Builtin.append_ #[22, 22] 22 #[.slice va (keysT pre).length vc, .slice (some ⟨W.heap.size, 0, none⟩) 1 1]).run Try.prog (W.alloc (.cells #[.int .i64 z] 3)).drew).andThen (fun a w' => Result.ok (Next.value a) w') = R8 := ⟨_, rfl⟩
      have hrunR : R8 = .ok (Next.value (.slice (some ⟨g8, 0, none⟩) ((keysT pre).length + 1) cap8)) w8 := by rw [← hrunX, ← hWA, hrun8]; rfl
      clear hrun8
      simp [go_sem] at hrunX
      have hne9 : (Value.slice va (keysT pre).length vc).ownBlock ≠ some (w'.heap.size + 1) := fun e => absurd (show w'.heap.size + 4 ≤ w'.heap.size + 1 from (hown.lt _ e).1) (by omega)
      have hszA : WA.heap.size = W.heap.size + 1 := by rw [hWA]; simp
      have hkA : ∀ q, q < W.heap.size → (Value.slice va (keysT pre).length vc).ownBlock ≠ some q → w8.heap[q]? = W.heap[q]? := fun q h1 h2 => by
        rw [hgrow8.block q (by show q < WA.heap.size; omega) (fun e => h2 e.symm)]
        show WA.heap[q]? = _
        rw [hWA, old_blk _ _ _ h1]
      obtain ⟨c1A, f1A⟩ := box1 ((old_blk W (.cells #[.int .i64 z] 3) (w'.heap.size + 1) (by omega)).trans HH.out.1)
      obtain ⟨c1', f1'⟩ := box1 ((hkA (w'.heap.size + 1) (by omega) hne9).trans HH.out.1)
      have hs8 : W.heap.size + 1 ≤ w8.heap.size := by have := hgrow8.size; have h9 : WA.drew.heap.size = W.heap.size + 1 := hszA; omega
      have hob : ∀ q, (Value.slice va (keysT pre).length vc).ownBlock = some q → w'.heap.size + 4 ≤ q := fun q h => (hown.lt q h).1
      have hat9 : (Value.slice (some ⟨g8, 0, none⟩) ((keysT pre).length + 1) cap8).ownBlock = (Value.slice va (keysT pre).length vc).ownBlock ∨ g8 = W.heap.size + 1 := by
        rcases hat8 with h | h
        · exact .inl h
        · simp only [Value.ownBlock, Option.some.injEq] at h; exact .inr (by rw [h]; exact hszA)
      have hk8 : Keep Pv W w8 := ⟨by have := hgrow8.os; rw [hWA] at this; exact this, by have := hgrow8.tape; rw [hWA] at this; exact this, by have := hgrow8.output; rw [hWA] at this; exact this, by omega, fun q h1 h2 => hkA q h1 (fun e => HH.out.2.2 q e h2)⟩
      have H8 := Lib.hid (And.intro hown8 (And.intro hk8 (And.intro hkA (And.intro hat9 hob))))
      clear hown8 hgrow8 hnil8 hat8 hnews hown hWA hszA hkA hk8 hat9 hob hne9
      gi_wp2
      gi_region_with_o (fail)
      all_goals (
        refine ⟨H8.out.2.1.trans ((Keep.setCell _ _ _ _ h1)), h1, _, set_blk (o := 0) _ ((H8.out.2.2.1 _ (by omega) (fun e => by have := H8.out.2.2.2.2 _ e; omega)).trans HH.out.1), ?_, fun q e h => ?_⟩
        · rw [HBB.out]
          unfold IntsOwn
          rw [List.length_append, List.map_append]
          exact ownsRow_keepB H8.out.1 (fun q hq => set_other _ _ _ _ _ (fun e => by have := (H8.out.1.lt q hq).1; omega))
        · simp only [Value.ownBlock, Option.some.injEq] at e
          subst e
          rcases H8.out.2.2.2.1 with h' | h'
          · exact HH.out.2.2 _ h'.symm h
          · have := HBND.out _ h
            omega)
    · have hpb : ((p : Int) == 1) = false := by rw [beq_eq_false_iff_ne]; omega
      have hb : keysT (pre ++ [(f, p)]) = keysT pre := by rw [HNX.out]; simp [keysT, hp1]
      have HBB := Lib.hid hb
      clear hb hle hp1
      gi_wp2
      refine ⟨Keep.refl _ _, h1, _, HH.out.1, ?_, HH.out.2.2⟩
      rw [HBB.out]
      exact HH.out.2.1
  case done =>
    intro W3 hk3 hI hlt hD
    obtain ⟨h1, v, h2, h3, h4⟩ := hI
    rw [HCNT.out] at h3
    obtain ⟨va, vc, rfl⟩ := IntsOwn.shown h3
    obtain ⟨c1, f1⟩ := box1 h2
    have hD4 : ∀ q, (Value.slice va t.keys.length vc).ownBlock = some q → q ≠ w'.heap.size + 4 := fun q e e2 => h4 q e (.inr (.inl (by omega)))
    rw [hs4] at hD
    have HD := Lib.hid hD
    have HH := Lib.hid (And.intro h3 hD4)
    clear h2 h3 h4 hD hD4
    gi_wp2
    refine ⟨by simp, .inl ⟨_, _, rfl, run_takeDeferred HD.out, ?_⟩⟩
    refine ⟨_, results_tmp rfl _ _ _, _, rfl, ?_, ?_⟩
    · exact IntsOwn.lower (lo := w'.heap.size + 4) (ownsRow_keepB HH.out.1 (fun q e => World.putObj_heap_other (HH.out.2 q e))) (by omega)
    · have hk5 : Keep (fun k => k < w5.heap.size ∧ k ≠ w'.heap.size + 1) W3 (W3.putObj (w'.heap.size + 4) (.deferred none)) := Keep.putObj _ _ _ _ (by omega)
      exact HB.out.1.trans ((HB.out.2.1.mono (by omega)).trans ((hk3.trans hk5).below (B := w'.heap.size) (by omega) (fun k h => ⟨by omega, by omega⟩)))
  case stop =>
    rintro c pre' W3 hk3 hp h hlt hD
    exact h.elim
end Go.Proofs.Ytodcapgmhginoaa

/- A node that grows in a box of its own: its row of keys, its row of kids, the kids' trees apart from all three. -/
import Derived.Test.YtepkigcbjepbpaaProg
import Derived.Test.YtepkigcbjepbpaaSh28
import Derived.StillTail
import Derived.Test.YtepkigcbjepbpaaSh0
import Derived.Test.YtepkigcbjepbpaaSh26
import Derived.Test.YtepkigcbjepbpaaSh21
import Derived.Deep.AppendLies

/- A region that draws its order and holds several operations that turn more than the others, stores among them. -/
namespace Go.Proofs.Ytepkigcbjepbpaa

section
variable {P : Program} {ops : Array Oper} {md : Region.Mode}

theorem wp_region_stores {rid : Nat} {a0 : Act} {w0 : World} {Q : Exit → Act → World → Prop} {n : Nat} (hm : P.follows .mixedOrders = true) (hs : Region.sinkB .any ops n = true) (hc : Region.chainB .any ops n = true) (hn : n < ops.size) (hback : backB .any ops = true)
    (sl : Nat → Nat) (hsl : ∀ i j, i < n → j < n → sl i = sl j → i = j) (R : World → World → Prop) (hRr : ∀ w, R w w) (hRt : ∀ a b c, R a b → R b c → R a c)
    (G : (Nat → Bool) → World → Prop) (hG0 : G (fun _ => false) w0.drew) (hGe : ∀ f g w, (∀ j, j < n → f j = g j) → G f w → G g w)
    (J : Nat → Value → World → Prop) (hJ : ∀ j v w w', J j v w → R w w' → J j v w')
    (hg : ∀ i oi, i < n → ops[i]? = some oi → oi.guard = none ∧ (oi.dst = some (sl i) ∨ (oi.dst = none ∧ ∀ v v' w, J i v w → J i v' w)))
    (hstep : ∀ i oi, i < n → ops[i]? = some oi → ∀ a w f, f i = false → Agree a0 a sl n → R w0.drew w → G f w → (∀ e, e ∈ oi.after → Region.binds .any e = true → J e.on (a.tmps[sl e.on]?.getD undef) w) →
      Oper.wp P oi a w (fun a' w' => ∃ v, a' = a.put oi.dst v ∧ sl i < a.tmps.size ∧ J i v w' ∧ R w w' ∧ G (fun j => if j = i then true else f j) w') Q)
    (htail : ∀ a w, Agree a0 a sl n → R w0.drew w → G (fun _ => true) w → (∀ j, j < n → J j (a.tmps[sl j]?.getD undef) w) → wpAny P .any ops Q (ops.size - n) (headDone n ops.size) a w) :
    (Code.region rid ops true).wp P Q a0 w0 := by
  refine wp_region_any hm ?_
  have hput : ∀ (i : Nat) (a : Act) (v : Value), i < n → sl i < a.tmps.size → (a.put (some (sl i)) v).tmps[sl i]?.getD undef = v ∧ ∀ j, j < n → j ≠ i → (a.put (some (sl i)) v).tmps[sl j]?.getD undef = a.tmps[sl j]?.getD undef := fun i a v hi hsz => by
    refine ⟨?_, fun j hj hne => ?_⟩
    · simp only [Act.put]
      rw [Array.getElem?_setIfInBounds_self_of_lt hsz]
      rfl
    · simp only [Act.put]
      rw [Array.getElem?_setIfInBounds_ne (fun e => hne (hsl j i hj hi e.symm))]
  have h := wpAny_headL (P := P) (ops := ops) (md := .any) (Q := Q) hs hc hn (fun listed a w => Agree a0 a sl n ∧ R w0.drew w ∧ G (fun j => listed.getD j true) w) (fun j a w => J j (a.tmps[sl j]?.getD undef) w) hback
    (fun i oi hi ho => (hg i oi hi ho).1)
    (fun i oi hi ho listed a w hls hu hB hI => by
      refine Oper.wp_mono (fun a' w' h => ?_) (hstep i oi hi ho a w _ hu hB.1 hB.2.1 hB.2.2 hI)
      obtain ⟨v, rfl, hsz, hv, hR, hG⟩ := h
      rcases (hg i oi hi ho).2 with hd | ⟨hd, hjn⟩
      · rw [hd]
        obtain ⟨hself, hoth⟩ := hput i a v hi hsz
        refine ⟨⟨hB.1.put hi v, hRt _ _ _ hB.2.1 hR, hGe _ _ _ (fun j hj => ?_) hG⟩, ?_, fun j hj hne hIj => ?_⟩
        · by_cases e : j = i
          · subst e
            rw [if_pos rfl]
            simp [show j < listed.size by omega]
          · rw [if_neg e, getD_set_ne true (Ne.symm e)]
        · rw [hself]; exact hv
        · rw [hoth j hj hne]; exact hJ j _ w w' hIj hR
      · rw [hd]
        refine ⟨⟨hB.1, hRt _ _ _ hB.2.1 hR, hGe _ _ _ (fun j hj => ?_) hG⟩, hjn _ _ _ hv, fun j hj hne hIj => hJ j _ w w' hIj hR⟩
        by_cases e : j = i
        · subst e
          rw [if_pos rfl]
          simp [show j < listed.size by omega]
        · rw [if_neg e, getD_set_ne true (Ne.symm e)])
    (fun a w hB hI => htail a w hB.1 hB.2.1 (hGe _ _ _ (fun j hj => by
      have : j < ops.size := by omega
      simp [headDone, hj, this]) hB.2.2) hI) n (Array.replicate ops.size false) a0 w0.drew
    ⟨by simp, fun j oj _ hl => (by rw [getD_replicate_false] at hl; exact absurd hl (by simp)), fun t _ ht => (by simp [ht])⟩ ?_
    ⟨⟨rfl, rfl, fun _ _ => rfl⟩, hRr _, hGe _ _ _ (fun j hj => by simp [show j < ops.size by omega]) hG0⟩ (fun j hj hl => ?_)
  · rw [show n + (ops.size - n) = ops.size by omega] at h
    exact h
  · have : ∀ m, m ≤ ops.size → left (Array.replicate ops.size false) m = m := by
      intro m
      induction m with
      | zero => intro _; rfl
      | succ m ih => intro hm; unfold left; rw [ih (by omega)]; simp [show m < ops.size by omega]
    exact this n (by omega)
  · simp [show j < ops.size by omega] at hl
end
end Go.Proofs.Ytepkigcbjepbpaa

/- The contract of the model's l1Sample. -/
namespace Go.Proofs.Ytepkigcbjepbpaa
open Go.RowKit

theorem num_get4 (i : Nat) (h : i < 4) : 1 ≤ ([2, 1, 4, 7] : List Int).getD i 0 ∧ ([2, 1, 4, 7] : List Int).getD i 0 ≤ 7 := by
  rcases i with _ | _ | _ | _ | i <;> simp <;> omega

def Sampled (w : World) (B r : Nat) (bs : List Nat) (p : Nat) (most : Int) (e : Ending) (w' : World) : Prop :=
  ∃ (v : Value) (ks : List Int) (q : Nat), e = .returned v ∧ IntsOwn w' w.heap.size v ks ∧ ks.length ≤ 100 ∧ ((ks.length : Int) ≤ most ∨ ks = []) ∧ (∀ x ∈ ks, 0 ≤ x ∧ x ≤ 99) ∧
    Rd w' B r bs q ∧ q ≤ p + 102 ∧ Only w.heap.size r w w'

set_option maxHeartbeats 1000000 in
theorem sample_c (w : World) (B r : Nat) (bs : List Nat) (p : Nat) (most : Int) (h : Rd w B r bs p) (hp : p ≤ 900000000) (_hm1 : -1000000000 ≤ most) (_hm2 : most ≤ 1000000000) :
    Calls Try.prog 113 #[.pointer (some ⟨r, 0, none⟩), .int .i64 most] w (Sampled w B r bs p most) := by
  have hrl := h.lt
  obtain ⟨W1, hW1⟩ : ∃ W1, W1 = (w.alloc (.cells #[] 3)).alloc (.cells #[.int .i64 2, .int .i64 1, .int .i64 4, .int .i64 7] 3) := ⟨_, rfl⟩
  have hs1 : W1.heap.size = w.heap.size + 2 := by rw [hW1]; simp
  have hb1 : Below w.heap.size w W1 := by rw [hW1]; exact ((Below.refl _ _).alloc (Nat.le_refl _) _).alloc (by simp) _
  have hr1 : Rd W1 B r bs p := h.later hb1 hrl
  have hk1 : W1.heap[w.heap.size + 1]? = some (.cells #[.int .i64 2, .int .i64 1, .int .i64 4, .int .i64 7] 3 (0, 0)) := by
    rw [hW1, show w.heap.size + 1 = (w.alloc (.cells #[] 3)).heap.size by simp, new_blk]
  have h00 : IntsOwn W1 w.heap.size (.slice (some ⟨w.heap.size, 0, none⟩) 0 0) [] := by
    rw [hW1]; exact World.ownsRow.alloc (World.ownsRow_made w #[] 0 (Nat.le_refl _) (by unfold maxLen; omega) rfl) _
  have HW1 := Lib.hid hW1
  have HX := Lib.hid (And.intro hs1 (And.intro hb1 (And.intro hr1 (And.intro hk1 h00))))
  clear hW1 hs1 hb1 hr1 hk1 h00 h
  go_enter Try.func113, Try.ntmps113
  go_wp2_with fail
  rw [← HW1.out]
  refine (num_c W1 B r bs p (w.heap.size + 1) [2, 1, 4, 7] 4 HX.out.2.2.1 (by omega) (by omega) (by simp) (by simp) (fun i hi => ?_)).mono ?_
  · have hk := HX.out.2.2.2.1
    have hi4 : i < 4 := by simpa using hi
    rcases i with _ | _ | _ | _ | i
    · simp [World.cell?, hk]
    · simp [World.cell?, hk]
    · simp [World.cell?, hk]
    · simp [World.cell?, hk]
    · omega
  rintro e w2 ⟨i, m, hi, rfl, hw2⟩
  have hst := num_get4 i (by simpa using hi)
  generalize ([2, 1, 4, 7] : List Int).getD i 0 = step at hst
  have hr2 : Rd w2 B r bs (p + 1) := by rw [hw2]; exact HX.out.2.2.1.picked m
  have ho2 : Only w.heap.size r W1 w2 := by rw [hw2]; exact Only.picked _ _ _ _ _
  have hown2 : IntsOwn w2 w.heap.size (.slice (some ⟨w.heap.size, 0, none⟩) 0 0) [] := HX.out.2.2.2.2.only (by rw [hw2]; exact Only.picked W1.heap.size r p W1 m) (Nat.le_refl _) hrl
  have HY := Lib.hid (And.intro hr2 (And.intro ho2 hown2))
  clear hr2 ho2 hown2 hi hw2
  go_wp2_with fail
  refine (pick_c w2 B r bs (p + 1) 5 HY.out.1 (by omega) (by omega) (by omega)).mono ?_
  rintro e w3 ⟨x, m3, rfl, hx0, hx1, _, hw3⟩
  have hr3 : Rd w3 B r bs (p + 1 + 1) := by rw [hw3]; exact HY.out.1.picked m3
  have ho3 : Only w.heap.size r w w3 := by rw [hw3]; exact ((below_only HX.out.2.1).trans HY.out.2.1).trans (Only.picked _ _ _ _ _)
  have hown3 : IntsOwn w3 w.heap.size (.slice (some ⟨w.heap.size, 0, none⟩) 0 0) [] := HY.out.2.2.only (by rw [hw3]; exact Only.picked w2.heap.size r (p + 1) w2 m3) (Nat.le_refl _) hrl
  have hx5 : x < 5 := hx1 (by omega)
  have HZ := Lib.hid (And.intro hr3 (And.intro ho3 hown3))
  clear hr3 ho3 hown3 hx1 hw3
  go_wp2_with fail
  go_loopw [5, 7] (fun l i wr => ∃ (ks : List Int) (k : Int) (q : Nat), i = .int .i64 k ∧ 0 ≤ k ∧ k ≤ 200 ∧ (ks.length : Int) ≤ k ∧ ks.length ≤ 100 ∧ ((ks.length : Int) ≤ most ∨ ks = []) ∧ (∀ x ∈ ks, 0 ≤ x ∧ x ≤ 99) ∧
      IntsOwn wr w.heap.size l ks ∧ Rd wr B r bs q ∧ q ≤ p + 2 + ks.length ∧ Only w.heap.size r w wr) (fun _ i _ => (200 - intOf i).toNat)
  case atStart => exact ⟨[], x, p + 1 + 1, rfl, hx0, by omega, by simpa using hx0, by simp, .inr rfl, by simp, HZ.out.2.2, HZ.out.1, by simp, HZ.out.2.1⟩
  case round =>
    obtain ⟨ks, k, q, rfl, hk0, hk200, hkl, hkl2, hmost, hin, hown, hrd, hq, honly⟩ := hrel
    obtain ⟨oa, oc, rfl⟩ := IntsOwn.shown hown
    have hsz := honly.size
    have HR := Lib.hid (And.intro hmost (And.intro hin (And.intro hown (And.intro hrd honly))))
    clear hmost hin hown hrd honly
    by_cases hgo : k ≤ 99 ∧ (ks.length : Int) < most
    · obtain ⟨hk99, hlm⟩ := hgo
      have HO1 := Lib.hid (IntsOwn.alloc' HR.out.2.2.1 (.cells #[.int .i64 k] 3))
      have HS := Lib.hid (IntsAt.one wr k)
      have hlo : w.heap.size ≤ (wr.alloc (.cells #[.int .i64 k] 3)).heap.size := by simp; omega
      have hln : ks.length + [k].length ≤ 17592186044416 := by simp; omega
      have HLN := Lib.hid hln
      clear hln
      go_wp2_with (at_builtin; refine wpList_append_ints rfl _ _ rfl w.heap.size _ _ ks [k] rfl HO1.out rfl HS.out HLN.out hlo ?_; intro v4 w4 hown4 hbel4 _ hsh4; obtain ⟨a4, c4, rfl⟩ := hsh4; generalize hL4 : ks ++ [k] = L4 at hown4 ⊢; have HL4 := Lib.hid hL4; have HN := Lib.hid (And.intro hown4 hbel4); clear hown4 hbel4 hL4)
      have hb4 : Below w.heap.size wr w4 := ((Below.refl _ _).alloc hsz _).trans HN.out.2
      have hr4 : Rd w4 B r bs q := HR.out.2.2.2.1.later hb4 hrl
      have HR4 := Lib.hid (And.intro hb4 hr4)
      clear hb4 hr4
      refine (pick_c w4 B r bs q step HR4.out.2 (by omega) (by omega) (by omega)).mono ?_
      rintro e w5 ⟨y, m5, rfl, hy0, hy1, _, hw5⟩
      have hr5 : Rd w5 B r bs (q + 1) := by rw [hw5]; exact HR4.out.2.picked m5
      have ho5 : Only w.heap.size r w w5 := by rw [hw5]; exact (HR.out.2.2.2.2.trans (below_only HR4.out.1)).trans (Only.picked _ _ _ _ _)
      have hown5 : IntsOwn w5 w.heap.size (.slice a4 L4.length c4) L4 := HN.out.1.only (by rw [hw5]; exact Only.picked w4.heap.size r q w4 m5) (Nat.le_refl _) hrl
      have hy7 : y < 7 := by have := hy1 (by omega); omega
      have HW := Lib.hid (And.intro hr5 (And.intro ho5 hown5))
      clear hr5 ho5 hown5 hy1 hw5
      go_wp2_with fail
      go_roundw
      case rel =>
        have hL := HL4.out
        have hll : L4.length = ks.length + 1 := by rw [← hL]; simp
        refine ⟨L4, k + 1 + y, q + 1, rfl, by omega, by omega, by omega, by omega, .inl (by omega), ?_, HW.out.2.2, HW.out.1, by omega, HW.out.2.1⟩
        intro z hz
        rw [← hL] at hz
        rcases List.mem_append.1 hz with h | h
        · exact HR.out.2.1 z h
        · obtain rfl : z = k := by simpa using h
          omega
      case measure => simp [intOf]; omega
    · by_cases hk99 : k ≤ 99
      · have hlm : ¬ ((ks.length : Int) < most) := fun h => hgo ⟨hk99, h⟩
        clear hgo
        go_wp2_with fail
        go_ret
        exact ⟨_, ks, q, rfl, HR.out.2.2.1, hkl2, HR.out.1, HR.out.2.1, HR.out.2.2.2.1, by omega, HR.out.2.2.2.2⟩
      · clear hgo
        go_wp2_with fail
        go_ret
        exact ⟨_, ks, q, rfl, HR.out.2.2.1, hkl2, HR.out.1, HR.out.2.1, HR.out.2.2.2.1, by omega, HR.out.2.2.2.2⟩
end Go.Proofs.Ytepkigcbjepbpaa

/- The model's l1Build: what it leaves; at depth 1. -/
namespace Go.Proofs.Ytepkigcbjepbpaa
open Go.RowKit

def Built (w : World) (B r : Nat) (bs : List Nat) (p n D : Nat) (e : Ending) (w' : World) : Prop :=
  ∃ (kv cv : Value) (t : Tr) (q : Nat), e = .returned (.agg #[kv, cv]) ∧ TreeQ w' (fun k => w.heap.size ≤ k ∧ k < w'.heap.size) kv cv t ∧ t.weight ≤ n + 8 ^ D ∧ Rd w' B r bs q ∧ q ≤ p + 8 ^ D ∧ Only w.heap.size r w w' ∧ (∀ n c, cv = .slice none n c → c = 0)

theorem IntsP.at {w w' : World} {P : Nat → Prop} {v : Value} {ks : List Int} (h : IntsP w P v ks) (hb : ∀ k, P k → w'.heap[k]? = w.heap[k]?) : IntsAt w' v ks := by
  obtain ⟨a, cap, hv, h1, h2, hnl, h3⟩ := h
  refine ⟨a, cap, hv, hnl, ?_⟩
  rcases h3 with h3 | ⟨b, o, h3, h4, h5⟩
  · exact .inl h3
  · exact .inr ⟨b, o, h3, fun i hi => by rw [cellP (hb b h4)]; exact h5 i hi⟩

theorem leaf_tree {w w' : World} {kv : Value} {g : Nat} {ks : List Int} (ho : IntsOwn w' (w.heap.size + 1) kv ks) (_hg : w.heap.size < g) (_hk : w'.heap[g]? = some (.cells #[] 29 (0, 0))) :
    TreeQ w' (fun k => w.heap.size ≤ k ∧ k < w'.heap.size) kv (.slice (some ⟨g, 0, none⟩) 0 0) (.mk ks []) := by
  exact TreeQ.mk ks [] kv (some ⟨g, 0, none⟩) 0 (fun _ => .bool false) (fun _ => .bool false) (ho.p.same (fun _ _ => rfl) (fun k h => ⟨by omega, h.2⟩)) (Nat.le_refl _) (by unfold maxLen; omega) (.inl rfl) (fun i h => by simp at h)

theorem box_out {w2 F : World} {bx : Nat} {x y kv cv : Value} (kb : w2.heap[bx]? = some (.cells #[x, y] 29 (0, 0))) (hF : F = (w2.setCell ⟨bx, 0, none⟩ kv).setCell ⟨bx, 1, none⟩ cv) :
    F.heap[bx]? = some (.cells #[kv, cv] 29 (0, 0)) ∧ (∀ k, k ≠ bx → F.heap[k]? = w2.heap[k]?) ∧ F.heap.size = w2.heap.size ∧ ∀ C, C ≤ bx → Below C w2 F := by
  refine ⟨?_, fun k h1 => ?_, ?_, fun C hC => ?_⟩
  · rw [hF]; exact set_blk (o := 1) _ (set_blk (o := 0) _ kb)
  · rw [hF, set_other _ _ _ _ _ h1, set_other _ _ _ _ _ h1]
  · rw [hF]; simp
  · rw [hF]; exact ((Below.refl _ _).setCell (p := ⟨bx, 0, none⟩) hC _).setCell (p := ⟨bx, 1, none⟩) hC _

set_option maxHeartbeats 1000000 in
theorem build_base (w : World) (B r : Nat) (bs : List Nat) (p : Nat) (v : Value) (ks : List Int) (wide : Int) (root : Bool) (h : Rd w B r bs p) (hk : IntsP w (fun k => k ≠ r ∧ k < w.heap.size) v ks) (hl : ks.length ≤ 100) :
    Calls Try.prog 116 #[.pointer (some ⟨r, 0, none⟩), v, .int .i64 wide, .int .i64 1, .bool root] w (Built w B r bs p ks.length 1) := by
  obtain ⟨W1, hW1⟩ : ∃ W1, W1 = w.alloc (.cells #[.slice none 0 0, .slice none 0 0] 29) := ⟨_, rfl⟩
  have hs1 : W1.heap.size = w.heap.size + 1 := by rw [hW1]; simp
  have hb1 : Below w.heap.size w W1 := by rw [hW1]; exact (Below.refl _ _).alloc (Nat.le_refl _) _
  have kb1 : W1.heap[w.heap.size]? = some (.cells #[.slice none 0 0, .slice none 0 0] 29 (0, 0)) := by rw [hW1, new_blk]
  have HL := Lib.hid (leaf_c W1 v ks (fun w' hb => hk.at (fun k hk => (hb.block k (by omega)).trans (hb1.block k hk.2))) (by omega))
  have hrl := h.lt
  have HR := Lib.hid h
  have H1 := Lib.hid (And.intro hb1 kb1)
  have HW1 := Lib.hid hW1
  clear h hk hb1 kb1 hW1
  go_enter Try.func116, Try.ntmps116
  go_wp2_with fail
  rw [← HW1.out]
  refine HL.out.mono ?_
  rintro e w2 ⟨kv, g, rfl, hown, _, hg, hkg, hb2⟩
  obtain ⟨a2, c2, rfl⟩ := hown.shown
  have hs2 := hb2.size
  have kb2 := (hb2.block w.heap.size (by omega)).trans H1.out.2
  have hb12 : Below w.heap.size w w2 := H1.out.1.trans (hb2.mono (by omega))
  obtain ⟨c1, c2', c3, c4⟩ := box2 kb2
  have HX := Lib.hid (And.intro hown (And.intro hkg (And.intro kb2 hb12)))
  clear hown hkg kb2 hb12 hb2
  go_wp2_with fail
  obtain ⟨F, hF⟩ : ∃ F, F = (w2.setCell ⟨w.heap.size, 0, none⟩ (.slice a2 ks.length c2)).setCell ⟨w.heap.size, 1, none⟩ (.slice (some ⟨g, 0, none⟩) 0 0) := ⟨_, rfl⟩
  rw [← hF]
  have hsF : F.heap.size = w2.heap.size := by rw [hF]; simp
  have kF : F.heap[w.heap.size]? = some (.cells #[.slice a2 ks.length c2, .slice (some ⟨g, 0, none⟩) 0 0] 29 (0, 0)) := by
    rw [hF]; exact set_blk (o := 1) _ (set_blk (o := 0) _ HX.out.2.2.1)
  have kE : ∀ k, k ≠ w.heap.size → F.heap[k]? = w2.heap[k]? := fun k h1 => by
    rw [hF, set_other _ _ _ _ _ h1, set_other _ _ _ _ _ h1]
  have hbF : Below w.heap.size w F := by
    rw [hF]; exact (HX.out.2.2.2.setCell (p := ⟨w.heap.size, 0, none⟩) (Nat.le_refl _) _).setCell (p := ⟨w.heap.size, 1, none⟩) (Nat.le_refl _) _
  clear hF c1 c2' c3 c4
  obtain ⟨d1, d2, d3, d4⟩ := box2 kF
  have htree := leaf_tree (w := W1) HX.out.1 hg HX.out.2.1
  refine bodyPost_ret (v := .agg #[.slice a2 ks.length c2, .slice (some ⟨g, 0, none⟩) 0 0]) (by simp [results, Try.results116, go_sem, d1, d2]) rfl ⟨_, _, .mk ks [], p, rfl, ?_, ?_, HR.out.later hbF hrl, by omega, below_only hbF, fun n c h => by cases h⟩
  · exact htree.same (fun k hk => kE k (by omega)) (fun k hk => by omega)
  · simp [Tr.weight, Tr.weights]
end Go.Proofs.Ytepkigcbjepbpaa

/- A node that grows in a box of its own: its row of keys, its row of kids, the kids' trees apart from all three. -/
namespace Go.Proofs.Ytepkigcbjepbpaa
open Go.RowKit

def kcells : List (Value × Value × Tr) → List Value
  | [] => []
  | x :: r => x.1 :: x.2.1 :: kcells r
theorem kcells_append (a b : List (Value × Value × Tr)) : kcells (a ++ b) = kcells a ++ kcells b := by
  induction a with
  | nil => rfl
  | cons f r ih => simp [kcells, ih]
theorem kcells_get : ∀ (a : List (Value × Value × Tr)) (i : Nat) (h : i < a.length), (kcells a)[i * 2]? = some a[i].1 ∧ (kcells a)[i * 2 + 1]? = some a[i].2.1
  | [], i, h => by simp at h
  | x :: r, 0, h => by simp [kcells]
  | x :: r, i + 1, h => by
    have ih := kcells_get r i (by simpa using h)
    have e1 : (i + 1) * 2 = i * 2 + 1 + 1 := by omega
    rw [e1]
    simpa [kcells] using ih

structure Sown (W : World) (lo bx : Nat) (kv cvv : Value) (kk : List Int) (K : List (Value × Value × Tr)) : Prop where
  box : W.heap[bx]? = some (.cells #[kv, cvv] 29 (0, 0))
  hlo : lo ≤ bx
  keys : IntsOwn W lo kv kk
  row : W.ownsRow lo 29 2 cvv K.length (kcells K)
  kne : kv.ownBlock ≠ some bx
  cne : cvv.ownBlock ≠ some bx
  apart : ∀ k, kv.ownBlock = some k → cvv.ownBlock ≠ some k
  kids : ∀ x ∈ K, TreeQ W (fun k => lo ≤ k ∧ k < W.heap.size ∧ k ≠ bx ∧ kv.ownBlock ≠ some k ∧ cvv.ownBlock ≠ some k) x.1 x.2.1 x.2.2

theorem ownsRow_keep {w w' : World} {base : Nat} {e : TypeId} {size n : Nat} {v : Value} {xs : List Value} (h : w.ownsRow base e size v n xs) (hb : ∀ k, v.ownBlock = some k → w'.heap[k]? = w.heap[k]?) : w'.ownsRow base e size v n xs := by
  obtain ⟨h1, h2 | ⟨g, cap, cur, hv, hbb, hg, hr⟩⟩ := h
  · exact ⟨h1, .inl h2⟩
  · exact ⟨h1, .inr ⟨g, cap, cur, hv, hbb, (hb g (by rw [hv]; rfl)).trans hg, hr⟩⟩

theorem Sown.tree {W : World} {lo bx : Nat} {kv cvv : Value} {kk : List Int} {K : List (Value × Value × Tr)} (h : Sown W lo bx kv cvv kk K) :
    TreeQ W (fun k => lo ≤ k ∧ k < W.heap.size) kv cvv (.mk kk (K.map (fun x => x.2.2))) := by
  have hlen : (K.map (fun x => x.2.2)).length = K.length := by simp
  have hrow := h.row
  obtain ⟨a, cap, rfl, hc1, hc2, hat⟩ : ∃ a cap, cvv = .slice a K.length cap ∧ K.length ≤ cap ∧ cap ≤ maxLen ∧ (K.length = 0 ∨ ∃ g, a = some ⟨g, 0, none⟩ ∧ lo ≤ g ∧ g < W.heap.size ∧ Plain W g) := by
    obtain ⟨h1, ⟨h2, h3⟩ | ⟨g, cap, cur, hv, hbb, hg, hn, hm, _⟩⟩ := hrow
    · exact ⟨none, 0, by rw [h2, h3], by omega, by unfold maxLen; omega, .inl h3⟩
    · exact ⟨_, cap, hv, hn, hm, .inr ⟨g, rfl, hbb, (Array.getElem?_eq_some_iff.1 hg).1, cur, _, hg⟩⟩
  have hT := TreeQ.mk (w := W) (P := fun k => lo ≤ k ∧ k < W.heap.size) kk (K.map (fun x => x.2.2)) kv a cap (fun i => (K.getD i (.bool false, .bool false, .mk [] [])).1) (fun i => (K.getD i (.bool false, .bool false, .mk [] [])).2.1)
    h.keys.p (by rw [hlen]; exact hc1) hc2 ?_ ?_
  · rw [hlen] at hT; exact hT
  · rw [hlen]
    rcases hat with h0 | ⟨g, rfl, g1, g2, g3⟩
    · exact .inl h0
    · refine .inr ⟨g, 0, rfl, ⟨⟨g1, g2⟩, g3⟩, fun i hi => ?_⟩
      obtain ⟨e1, e2⟩ := kcells_get K i hi
      have d : K.getD i (.bool false, .bool false, .mk [] []) = K[i] := by simp [List.getD_eq_getElem?_getD, hi]
      dsimp only
      rw [d]
      refine ⟨?_, ?_⟩
      · rw [Nat.zero_add, World.ownsRow.cellAt hrow (i * 2) (by omega)]; exact e1
      · rw [Nat.zero_add, World.ownsRow.cellAt hrow (i * 2 + 1) (by omega)]; exact e2
  · intro i hi
    rw [hlen] at hi
    have d : K.getD i (.bool false, .bool false, .mk [] []) = K[i] := by simp [List.getD_eq_getElem?_getD, hi]
    show TreeQ W _ (K.getD i _).1 (K.getD i _).2.1 _
    rw [d, List.getElem_map]
    exact (h.kids K[i] (List.getElem_mem hi)).same (fun _ _ => rfl) (fun k hk => ⟨hk.1, hk.2.1⟩)

theorem Sown.same {W W' : World} {lo bx : Nat} {kv cvv : Value} {kk : List Int} {K : List (Value × Value × Tr)} (h : Sown W lo bx kv cvv kk K) (hb : ∀ k, lo ≤ k → k < W.heap.size → W'.heap[k]? = W.heap[k]?) (hs : W.heap.size ≤ W'.heap.size) : Sown W' lo bx kv cvv kk K := by
  have hbx : bx < W.heap.size := (Array.getElem?_eq_some_iff.1 h.box).1
  refine ⟨(hb bx h.hlo hbx).trans h.box, h.hlo, h.keys.keep hb, ownsRow_keep h.row (fun k hk => hb k (h.row.lt k hk).1 (h.row.lt k hk).2), h.kne, h.cne, h.apart, fun x hx => ?_⟩
  exact (h.kids x hx).same (fun k hk => hb k hk.1 hk.2.1) (fun k hk => ⟨hk.1, by omega, hk.2.2⟩)

theorem Sown.shown {W : World} {lo bx : Nat} {kv cvv : Value} {kk : List Int} {K : List (Value × Value × Tr)} (h : Sown W lo bx kv cvv kk K) : ∃ a c a' c', kv = .slice a kk.length c ∧ cvv = .slice a' K.length c' := by
  obtain ⟨a, c, h1⟩ := IntsOwn.shown h.keys
  obtain ⟨_, ⟨h2, h3⟩ | ⟨g, cap, cur, hv, _⟩⟩ := h.row
  · exact ⟨a, c, none, 0, h1, by rw [h2, h3]⟩
  · exact ⟨a, c, _, cap, h1, hv⟩

theorem Sown.kid2 {W w6 w7 : World} {lo bx r gg cap : Nat} {kv cvv kc cc : Value} {kk : List Int} {K : List (Value × Value × Tr)} {t : Tr} (h : Sown W lo bx kv cvv kk K) (hr : r < lo)
    (h6 : Only W.heap.size r W w6) (ht : TreeQ w6 (fun k => W.heap.size ≤ k ∧ k < w6.heap.size) kc cc t)
    (hown : w7.ownsRow lo 29 2 (.slice (some ⟨gg, 0, none⟩) (K.length + 1) cap) (K.length + 1) (kcells K ++ [kc, cc]))
    (hg : w6.grownBy w7 cvv.ownBlock) (hat : cvv.ownBlock = some gg ∨ gg = w6.heap.size) :
    Sown (w7.setCell ⟨bx, 1, none⟩ (.slice (some ⟨gg, 0, none⟩) (K.length + 1) cap)) lo bx kv (.slice (some ⟨gg, 0, none⟩) (K.length + 1) cap) kk (K ++ [(kc, cc, t)]) ∧
    Only lo r W (w7.setCell ⟨bx, 1, none⟩ (.slice (some ⟨gg, 0, none⟩) (K.length + 1) cap)) := by
  have hbx : bx < W.heap.size := (Array.getElem?_eq_some_iff.1 h.box).1
  have hlo := h.hlo
  have hs6 := h6.size
  have hs7 : w6.heap.size ≤ w7.heap.size := hg.size
  obtain ⟨F, hF⟩ : ∃ F, F = w7.setCell ⟨bx, 1, none⟩ (.slice (some ⟨gg, 0, none⟩) (K.length + 1) cap) := ⟨_, rfl⟩
  have hsF : F.heap.size = w7.heap.size := by rw [hF]; simp
  have kE : ∀ k, k ≠ bx → F.heap[k]? = w7.heap[k]? := fun k h1 => by rw [hF, set_other _ _ _ _ _ h1]
  have old7 : ∀ k, k < w6.heap.size → cvv.ownBlock ≠ some k → w7.heap[k]? = w6.heap[k]? := fun k h1 h3 => by
    exact hg.block k h1 (fun e => h3 e.symm)
  have oldW : ∀ k, k < W.heap.size → k ≠ r → w6.heap[k]? = W.heap[k]? := fun k h1 h2 => h6.block k h1 h2
  have ownK : ∀ k, kv.ownBlock = some k → lo ≤ k ∧ k < W.heap.size := fun k hk => h.keys.lt k hk
  have ownC : ∀ k, cvv.ownBlock = some k → lo ≤ k ∧ k < W.heap.size := fun k hk => h.row.lt k hk
  have hbox : F.heap[bx]? = some (.cells #[kv, .slice (some ⟨gg, 0, none⟩) (K.length + 1) cap] 29 (0, 0)) := by
    have h1 : w7.heap[bx]? = some (.cells #[kv, cvv] 29 (0, 0)) := (old7 bx (by omega) h.cne).trans ((oldW bx hbx (by omega)).trans h.box)
    rw [hF]; exact set_blk (o := 1) _ h1
  have hgg : ∀ k, k < w6.heap.size → cvv.ownBlock ≠ some k → gg ≠ k := fun k h1 h2 e => by
    rcases hat with h3 | h3
    · exact h2 (by rw [h3, e])
    · omega
  rw [← hF]
  refine ⟨⟨hbox, hlo, ?_, ?_, h.kne, ?_, ?_, ?_⟩, ?_⟩
  · exact ownsRow_keep h.keys (fun k hk => by
      have := ownK k hk
      rw [kE k (fun e => h.kne (by rw [hk, e])), old7 k (by omega) (h.apart k hk), oldW k this.2 (by omega)])
  · have e1 : kcells (K ++ [(kc, cc, t)]) = kcells K ++ [kc, cc] := by rw [kcells_append]; rfl
    rw [e1, show (K ++ [(kc, cc, t)]).length = K.length + 1 by simp]
    exact ownsRow_keep hown (fun k hk => kE k (fun e => by
      have hk' : gg = k := by simpa [Value.ownBlock] using hk
      exact hgg bx (by omega) h.cne (by omega)))
  · intro e
    have hk' : gg = bx := by simpa [Value.ownBlock] using e
    exact hgg bx (by omega) h.cne hk'
  · intro k hk e
    have hk' : gg = k := by simpa [Value.ownBlock] using e
    have := ownK k hk
    exact hgg k (by omega) (h.apart k hk) hk'
  · intro x hx
    rcases List.mem_append.1 hx with hx | hx
    · refine (h.kids x hx).same (fun k hk => ?_) (fun k hk => ⟨hk.1, by omega, hk.2.2.1, hk.2.2.2.1, ?_⟩)
      · rw [kE k hk.2.2.1, old7 k (by omega) hk.2.2.2.2, oldW k hk.2.1 (by omega)]
      · intro e
        have hk' : gg = k := by simpa [Value.ownBlock] using e
        exact hgg k (by omega) hk.2.2.2.2 hk'
    · obtain rfl := List.mem_singleton.1 hx
      have nC : ∀ k, W.heap.size ≤ k → cvv.ownBlock ≠ some k := fun k h1 e => by have := (ownC k e).2; omega
      refine ht.same (fun k hk => ?_) (fun k hk => ⟨by omega, by omega, by omega, fun e => ?_, fun e => ?_⟩)
      · rw [kE k (by omega), old7 k hk.2 (nC k hk.1)]
      · have := (ownK k e).2; omega
      · have hk' : gg = k := by simpa [Value.ownBlock] using e
        exact hgg k hk.2 (nC k hk.1) hk'
  · refine ⟨?_, ?_, ?_, by omega, fun k hk hkr => ?_⟩
    · rw [hF]; exact hg.os.trans h6.os
    · rw [hF]; exact hg.tape.trans h6.tape
    · rw [hF]; exact hg.output.trans h6.output
    · rw [kE k (by omega), old7 k (by omega) (fun e => by have := (ownC k e).1; omega), oldW k (by omega) hkr]

theorem Sown.key2 {W w7 : World} {lo bx gg cap : Nat} {kv cvv : Value} {kk : List Int} {x : Int} {K : List (Value × Value × Tr)} (h : Sown W lo bx kv cvv kk K)
    (hown : w7.ownsRow lo 3 1 (.slice (some ⟨gg, 0, none⟩) (kk.length + 1) cap) (kk.length + 1) (kk.map (Value.int .i64) ++ [.int .i64 x]))
    (hg : W.grownBy w7 kv.ownBlock) (hat : kv.ownBlock = some gg ∨ gg = W.heap.size) :
    Sown (w7.setCell ⟨bx, 0, none⟩ (.slice (some ⟨gg, 0, none⟩) (kk.length + 1) cap)) lo bx (.slice (some ⟨gg, 0, none⟩) (kk.length + 1) cap) cvv (kk ++ [x]) K ∧
    Below lo W (w7.setCell ⟨bx, 0, none⟩ (.slice (some ⟨gg, 0, none⟩) (kk.length + 1) cap)) := by
  have hbx : bx < W.heap.size := (Array.getElem?_eq_some_iff.1 h.box).1
  have hlo := h.hlo
  have hs7 : W.heap.size ≤ w7.heap.size := hg.size
  obtain ⟨F, hF⟩ : ∃ F, F = w7.setCell ⟨bx, 0, none⟩ (.slice (some ⟨gg, 0, none⟩) (kk.length + 1) cap) := ⟨_, rfl⟩
  have hsF : F.heap.size = w7.heap.size := by rw [hF]; simp
  have kE : ∀ k, k ≠ bx → F.heap[k]? = w7.heap[k]? := fun k h1 => by rw [hF, set_other _ _ _ _ _ h1]
  have old7 : ∀ k, k < W.heap.size → kv.ownBlock ≠ some k → w7.heap[k]? = W.heap[k]? := fun k h1 h3 => by
    exact hg.block k h1 (fun e => h3 e.symm)
  have ownK : ∀ k, kv.ownBlock = some k → lo ≤ k ∧ k < W.heap.size := fun k hk => h.keys.lt k hk
  have ownC : ∀ k, cvv.ownBlock = some k → lo ≤ k ∧ k < W.heap.size := fun k hk => h.row.lt k hk
  have hbox : F.heap[bx]? = some (.cells #[.slice (some ⟨gg, 0, none⟩) (kk.length + 1) cap, cvv] 29 (0, 0)) := by
    have h1 : w7.heap[bx]? = some (.cells #[kv, cvv] 29 (0, 0)) := (old7 bx hbx h.kne).trans h.box
    rw [hF]; exact set_blk (o := 0) _ h1
  have hgg : ∀ k, k < W.heap.size → kv.ownBlock ≠ some k → gg ≠ k := fun k h1 h2 e => by
    rcases hat with h3 | h3
    · exact h2 (by rw [h3, e])
    · omega
  rw [← hF]
  refine ⟨⟨hbox, hlo, ?_, ?_, ?_, h.cne, ?_, ?_⟩, ?_⟩
  · have e1 : (kk ++ [x]).map (Value.int .i64) = kk.map (Value.int .i64) ++ [.int .i64 x] := by simp
    unfold IntsOwn
    rw [e1, show (kk ++ [x]).length = kk.length + 1 by simp]
    exact ownsRow_keep hown (fun k hk => kE k (fun e => by
      have hk' : gg = k := by simpa [Value.ownBlock] using hk
      exact hgg bx (by omega) h.kne (by omega)))
  · exact ownsRow_keep h.row (fun k hk => by
      have := ownC k hk
      rw [kE k (fun e => h.cne (by rw [hk, e])), old7 k this.2 (fun e => h.apart k e hk)])
  · intro e
    have hk' : gg = bx := by simpa [Value.ownBlock] using e
    exact hgg bx (by omega) h.kne hk'
  · intro k hk e
    have hk' : gg = k := by simpa [Value.ownBlock] using hk
    have := ownC k e
    exact hgg k (by omega) (fun e2 => h.apart k e2 e) hk'
  · intro y hy
    refine (h.kids y hy).same (fun k hk => ?_) (fun k hk => ⟨hk.1, by omega, hk.2.2.1, ?_, hk.2.2.2.2⟩)
    · rw [kE k hk.2.2.1, old7 k (by omega) hk.2.2.2.1]
    · intro e
      have hk' : gg = k := by simpa [Value.ownBlock] using e
      exact hgg k (by omega) hk.2.2.2.1 hk'
  · refine ⟨?_, ?_, ?_, by omega, fun k hk => ?_⟩
    · rw [hF]; exact hg.os
    · rw [hF]; exact hg.tape
    · rw [hF]; exact hg.output
    · rw [kE k (by omega), old7 k (by omega) (fun e => by have := (ownK k e).1; omega)]
end Go.Proofs.Ytepkigcbjepbpaa

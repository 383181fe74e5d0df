/- The model's l1Build: what it leaves; at depth 1. -/
import Derived.Test.YticfkfjijnfcbaaDoorProg
import Derived.Test.YticfkfjijnfcbaaDoorSh19
import Derived.StillTail
import Derived.Test.YticfkfjijnfcbaaDoorSh0
import Derived.Test.YticfkfjijnfcbaaDoorSh9
import Derived.Test.YticfkfjijnfcbaaDoorSh18

/- A region that draws its order and holds one operation that turns more than the others: an invariant with what holds before and behind it. -/
namespace Go.Proofs.YticfkfjijnfcbaaDoor

section
variable {P : Program} {ops : Array Oper} {md : Region.Mode}

/-- By an invariant: whenever an operation of the head comes, it finds what those before it left, and leaves its own; behind the head the rest. -/
theorem wpAny_headL {Q : Exit → Act → World → Prop} {n : Nat} (hs : Region.sinkB md ops n = true) (hc : Region.chainB md ops n = true) (hn : n < ops.size)
    (B : Array Bool → Act → World → Prop) (I : Nat → Act → World → Prop)
    (hback : backB md ops = true)
    (hg : ∀ i oi, i < n → ops[i]? = some oi → oi.guard = none)
    (hstep : ∀ i oi, i < n → ops[i]? = some oi → ∀ listed a w, listed.size = ops.size → listed.getD i true = false → B listed a w → (∀ e, e ∈ oi.after → Region.binds md e = true → I e.on a w) →
      Oper.wp P oi a w (fun a' w' => B (listed.setIfInBounds i true) a' w' ∧ I i a' w' ∧ ∀ j, j < n → j ≠ i → I j a w → I j a' w') Q)
    (htail : ∀ a w, B (headDone n ops.size) a w → (∀ j, j < n → I j a w) → wpAny P md ops Q (ops.size - n) (headDone n ops.size) a w) :
    ∀ (d : Nat) (listed : Array Bool) (a : Act) (w : World), HeadInv md ops n listed → left listed n = d → B listed a w → (∀ j, j < n → listed.getD j true = true → I j a w) →
      wpAny P md ops Q (d + (ops.size - n)) listed a w := by
  intro d
  induction d with
  | zero =>
    intro listed a w inv hl hB hI
    have hall := left_zero n hl
    have e : listed = headDone n ops.size := by
      apply Array.ext
      · rw [inv.size]; simp [headDone]
      · intro i h1 h2
        have hsz := inv.size
        by_cases hi : i < n
        · have := hall i hi
          simp [h1] at this
          simp [headDone, hi, this]
        · have := inv.tail i (by omega) (by omega)
          simp [h1] at this
          simp [headDone, hi, this]
    rw [e] at hB
    rw [e, Nat.zero_add]
    exact htail a w hB (fun j hj => hI j hj (hall j hj))
  | succ d ih =>
    intro listed a w inv hl hB hI
    obtain ⟨j0, hj0, hu0⟩ := left_pos n (by omega : 0 < left listed n)
    rw [show d + 1 + (ops.size - n) = (d + (ops.size - n)) + 1 by omega]
    refine ⟨fun hr => ?_, fun i hi => ?_⟩
    · exact absurd hr (ready_some hback inv (by omega) j0 hj0 hu0)
    · have hin : i < n := by
        rcases Nat.lt_or_ge i n with h | h
        · exact h
        · exact absurd hi (tail_waits hs hc hn inv _ j0 rfl hj0 hu0 i h)
      obtain ⟨hu, oi, hoi, hall⟩ := mem_ready.1 hi
      have hst := hstep i oi hin hoi listed a w inv.size hu hB (fun e he hb => ?_)
      · unfold wpOp
        rw [hoi]
        have hw : Region.wanted oi (yielded ops a.tmps) = true := by simp [Region.wanted, hg i oi hin hoi]
        simp only [hw, if_true]
        left
        refine Oper.wp_mono (fun a' w' h => ?_) hst
        obtain ⟨h1, h2, h3⟩ := h
        have hisz : i < listed.size := by rw [inv.size]; omega
        have hls := left_set hu hisz n
        rw [if_pos hin] at hls
        refine ih _ a' w' (inv.set hi hin) (by omega) h1 (fun j hj hlj => ?_)
        by_cases e : j = i
        · subst e; exact h2
        · refine h3 j hj e (hI j hj ?_)
          exact (getD_set_ne true (Ne.symm e)).symm.trans hlj
      · have hl2 := hall e he hb
        have hlt : e.on < n := by
          rcases Nat.lt_or_ge e.on n with h | h
          · exact h
          · have := inv.tail e.on h (by
              rcases Nat.lt_or_ge e.on listed.size with h' | h'
              · rw [inv.size] at h'; exact h'
              · simp [Array.getElem?_eq_none h'] at hl2)
            exfalso
            rcases Nat.lt_or_ge e.on listed.size with h' | h'
            · simp [h'] at this hl2; rw [this] at hl2; cases hl2
            · simp [Array.getElem?_eq_none h'] at hl2
        refine hI e.on hlt ?_
        rcases Nat.lt_or_ge e.on listed.size with h' | h'
        · simp [h'] at hl2 ⊢; exact hl2
        · simp [Array.getElem?_eq_none h'] at hl2


theorem wp_region_one {rid : Nat} {a0 : Act} {w0 : World} {Q : Exit → Act → World → Prop} {n : Nat} (hm : P.follows .mixedOrders = true) (hs : Region.sinkB .any ops n = true) (hc : Region.chainB .any ops n = true) (hn : n < ops.size) (hback : backB .any ops = true)
    (sl : Nat → Nat) (hsl : ∀ i j, i < n → j < n → sl i = sl j → i = j) (R : World → World → Prop) (hRr : ∀ w, R w w) (hRt : ∀ a b c, R a b → R b c → R a c)
    (c : Nat) (hcn : c < n) (G : Bool → World → Prop) (hG0 : G false w0.drew)
    (J : Nat → Value → World → Prop) (hJ : ∀ j v w w', J j v w → R w w' → J j v w')
    (hg : ∀ i oi, i < n → ops[i]? = some oi → oi.guard = none ∧ oi.dst = some (sl i))
    (hstep : ∀ i oi, i < n → i ≠ c → ops[i]? = some oi → ∀ a w b, Agree a0 a sl n → R w0.drew w → G b w → (∀ e, e ∈ oi.after → Region.binds .any e = true → J e.on (a.tmps[sl e.on]?.getD undef) w) →
      Oper.wp P oi a w (fun a' w' => ∃ v, a' = a.put oi.dst v ∧ sl i < a.tmps.size ∧ J i v w' ∧ R w w' ∧ G b w') Q)
    (hcall : ∀ oi, ops[c]? = some oi → ∀ a w, Agree a0 a sl n → R w0.drew w → G false w → (∀ e, e ∈ oi.after → Region.binds .any e = true → J e.on (a.tmps[sl e.on]?.getD undef) w) →
      Oper.wp P oi a w (fun a' w' => ∃ v, a' = a.put oi.dst v ∧ sl c < a.tmps.size ∧ J c v w' ∧ R w w' ∧ G true w') Q)
    (htail : ∀ a w, Agree a0 a sl n → R w0.drew w → G true w → (∀ j, j < n → J j (a.tmps[sl j]?.getD undef) w) → wpAny P .any ops Q (ops.size - n) (headDone n ops.size) a w) :
    (Code.region rid ops true).wp P Q a0 w0 := by
  refine wp_region_any hm ?_
  have hput : ∀ (i : Nat) (a : Act) (v : Value), i < n → sl i < a.tmps.size → (a.put (some (sl i)) v).tmps[sl i]?.getD undef = v ∧ ∀ j, j < n → j ≠ i → (a.put (some (sl i)) v).tmps[sl j]?.getD undef = a.tmps[sl j]?.getD undef := fun i a v hi hsz => by
    refine ⟨?_, fun j hj hne => ?_⟩
    · simp only [Act.put]
      rw [Array.getElem?_setIfInBounds_self_of_lt hsz]
      rfl
    · simp only [Act.put]
      rw [Array.getElem?_setIfInBounds_ne (fun e => hne (hsl j i hj hi e.symm))]
  have h := wpAny_headL (P := P) (ops := ops) (md := .any) (Q := Q) hs hc hn (fun listed a w => Agree a0 a sl n ∧ R w0.drew w ∧ G (listed.getD c true) w) (fun j a w => J j (a.tmps[sl j]?.getD undef) w) hback
    (fun i oi hi ho => (hg i oi hi ho).1)
    (fun i oi hi ho listed a w hls hu hB hI => by
      by_cases hic : i = c
      · subst hic
        rw [hu] at hB
        refine Oper.wp_mono (fun a' w' h => ?_) (hcall oi ho a w hB.1 hB.2.1 hB.2.2 hI)
        obtain ⟨v, rfl, hsz, hv, hR, hG⟩ := h
        rw [(hg i oi hi ho).2]
        obtain ⟨hself, hoth⟩ := hput i a v hi hsz
        refine ⟨⟨hB.1.put hi v, hRt _ _ _ hB.2.1 hR, ?_⟩, ?_, fun j hj hne hIj => ?_⟩
        · have : (listed.setIfInBounds i true).getD i true = true := by simp [show i < listed.size by omega]
          rw [this]; exact hG
        · rw [hself]; exact hv
        · rw [hoth j hj hne]; exact hJ j _ w w' hIj hR
      · refine Oper.wp_mono (fun a' w' h => ?_) (hstep i oi hi hic ho a w _ hB.1 hB.2.1 hB.2.2 hI)
        obtain ⟨v, rfl, hsz, hv, hR, hG⟩ := h
        rw [(hg i oi hi ho).2]
        obtain ⟨hself, hoth⟩ := hput i a v hi hsz
        refine ⟨⟨hB.1.put hi v, hRt _ _ _ hB.2.1 hR, ?_⟩, ?_, fun j hj hne hIj => ?_⟩
        · rw [getD_set_ne true hic]; exact hG
        · rw [hself]; exact hv
        · rw [hoth j hj hne]; exact hJ j _ w w' hIj hR)
    (fun a w hB hI => htail a w hB.1 hB.2.1 (by
      have h := hB.2.2
      have e : (headDone n ops.size).getD c true = true := by
        have : c < ops.size := by omega
        simp [headDone, hcn, this]
      rw [e] at h
      exact h) hI) n (Array.replicate ops.size false) a0 w0.drew
    ⟨by simp, fun j oj _ hl => (by rw [getD_replicate_false] at hl; exact absurd hl (by simp)), fun t _ ht => (by simp [ht])⟩ ?_
    ⟨⟨rfl, rfl, fun _ _ => rfl⟩, hRr _, by
      have e : (Array.replicate ops.size false).getD c true = false := by simp [show c < ops.size by omega]
      rw [e]; exact hG0⟩ (fun j hj hl => ?_)
  · rw [show n + (ops.size - n) = ops.size by omega] at h
    exact h
  · have : ∀ m, m ≤ ops.size → left (Array.replicate ops.size false) m = m := by
      intro m
      induction m with
      | zero => intro _; rfl
      | succ m ih => intro hm; unfold left; rw [ih (by omega)]; simp [show m < ops.size by omega]
    exact this n (by omega)
  · simp [show j < ops.size by omega] at hl
end
end Go.Proofs.YticfkfjijnfcbaaDoor

/- The contract of the model's l1Sample. -/
namespace Go.Proofs.YticfkfjijnfcbaaDoor
open Go.RowKit

theorem num_get4 (i : Nat) (h : i < 4) : 1 ≤ ([2, 1, 4, 7] : List Int).getD i 0 ∧ ([2, 1, 4, 7] : List Int).getD i 0 ≤ 7 := by
  rcases i with _ | _ | _ | _ | i <;> simp <;> omega

/-- What l1Sample leaves. -/
def Sampled (w : World) (B r : Nat) (bs : List Nat) (p : Nat) (most : Int) (e : Ending) (w' : World) : Prop :=
  ∃ (v : Value) (ks : List Int) (q : Nat), e = .returned v ∧ IntsOwn w' w.heap.size v ks ∧ ks.length ≤ 100 ∧ ((ks.length : Int) ≤ most ∨ ks = []) ∧ (∀ x ∈ ks, 0 ≤ x ∧ x ≤ 99) ∧
    Rd w' B r bs q ∧ q ≤ p + 102 ∧ Only w.heap.size r w w'

set_option maxHeartbeats 1000000 in
theorem sample_c (w : World) (B r : Nat) (bs : List Nat) (p : Nat) (most : Int) (h : Rd w B r bs p) (hp : p ≤ 900000000) (_hm1 : -1000000000 ≤ most) (_hm2 : most ≤ 1000000000) :
    Calls Tryd.prog 135 #[.pointer (some ⟨r, 0, none⟩), .int .i64 most] w (Sampled w B r bs p most) := by
  have hrl := h.lt
  obtain ⟨W1, hW1⟩ : ∃ W1, W1 = (w.alloc (.cells #[] 3)).alloc (.cells #[.int .i64 2, .int .i64 1, .int .i64 4, .int .i64 7] 3) := ⟨_, rfl⟩
  have hs1 : W1.heap.size = w.heap.size + 2 := by rw [hW1]; simp
  have hb1 : Below w.heap.size w W1 := by rw [hW1]; exact ((Below.refl _ _).alloc (Nat.le_refl _) _).alloc (by simp) _
  have hr1 : Rd W1 B r bs p := h.later hb1 hrl
  have hk1 : W1.heap[w.heap.size + 1]? = some (.cells #[.int .i64 2, .int .i64 1, .int .i64 4, .int .i64 7] 3 (0, 0)) := by
    rw [hW1, show w.heap.size + 1 = (w.alloc (.cells #[] 3)).heap.size by simp, new_blk]
  have h00 : IntsOwn W1 w.heap.size (.slice (some ⟨w.heap.size, 0, none⟩) 0 0) [] := by
    rw [hW1]; exact World.ownsRow.alloc (World.ownsRow_made w #[] 0 (Nat.le_refl _) (by unfold maxLen; omega) rfl) _
  have HW1 := Lib.hid hW1
  have HX := Lib.hid (And.intro hs1 (And.intro hb1 (And.intro hr1 (And.intro hk1 h00))))
  clear hW1 hs1 hb1 hr1 hk1 h00 h
  go_enter Tryd.func135, Tryd.ntmps135
  go_wp2_with fail
  rw [← HW1.out]
  refine (num_c W1 B r bs p (w.heap.size + 1) [2, 1, 4, 7] 4 HX.out.2.2.1 (by omega) (by omega) (by simp) (by simp) (fun i hi => ?_)).mono ?_
  · have hk := HX.out.2.2.2.1
    have hi4 : i < 4 := by simpa using hi
    rcases i with _ | _ | _ | _ | i
    · simp [World.cell?, hk]
    · simp [World.cell?, hk]
    · simp [World.cell?, hk]
    · simp [World.cell?, hk]
    · omega
  rintro e w2 ⟨i, m, hi, rfl, hw2⟩
  have hst := num_get4 i (by simpa using hi)
  generalize ([2, 1, 4, 7] : List Int).getD i 0 = step at hst
  have hr2 : Rd w2 B r bs (p + 1) := by rw [hw2]; exact HX.out.2.2.1.picked m
  have ho2 : Only w.heap.size r W1 w2 := by rw [hw2]; exact Only.picked _ _ _ _ _
  have hown2 : IntsOwn w2 w.heap.size (.slice (some ⟨w.heap.size, 0, none⟩) 0 0) [] := HX.out.2.2.2.2.only (by rw [hw2]; exact Only.picked W1.heap.size r p W1 m) (Nat.le_refl _) hrl
  have HY := Lib.hid (And.intro hr2 (And.intro ho2 hown2))
  clear hr2 ho2 hown2 hi hw2
  go_wp2_with fail
  refine (pick_c w2 B r bs (p + 1) 5 HY.out.1 (by omega) (by omega) (by omega)).mono ?_
  rintro e w3 ⟨x, m3, rfl, hx0, hx1, _, hw3⟩
  have hr3 : Rd w3 B r bs (p + 1 + 1) := by rw [hw3]; exact HY.out.1.picked m3
  have ho3 : Only w.heap.size r w w3 := by rw [hw3]; exact ((below_only HX.out.2.1).trans HY.out.2.1).trans (Only.picked _ _ _ _ _)
  have hown3 : IntsOwn w3 w.heap.size (.slice (some ⟨w.heap.size, 0, none⟩) 0 0) [] := HY.out.2.2.only (by rw [hw3]; exact Only.picked w2.heap.size r (p + 1) w2 m3) (Nat.le_refl _) hrl
  have hx5 : x < 5 := hx1 (by omega)
  have HZ := Lib.hid (And.intro hr3 (And.intro ho3 hown3))
  clear hr3 ho3 hown3 hx1 hw3
  go_wp2_with fail
  go_loopw [5, 7] (fun l i wr => ∃ (ks : List Int) (k : Int) (q : Nat), i = .int .i64 k ∧ 0 ≤ k ∧ k ≤ 200 ∧ (ks.length : Int) ≤ k ∧ ks.length ≤ 100 ∧ ((ks.length : Int) ≤ most ∨ ks = []) ∧ (∀ x ∈ ks, 0 ≤ x ∧ x ≤ 99) ∧
      IntsOwn wr w.heap.size l ks ∧ Rd wr B r bs q ∧ q ≤ p + 2 + ks.length ∧ Only w.heap.size r w wr) (fun _ i _ => (200 - intOf i).toNat)
  case atStart => exact ⟨[], x, p + 1 + 1, rfl, hx0, by omega, by simpa using hx0, by simp, .inr rfl, by simp, HZ.out.2.2, HZ.out.1, by simp, HZ.out.2.1⟩
  case round =>
    obtain ⟨ks, k, q, rfl, hk0, hk200, hkl, hkl2, hmost, hin, hown, hrd, hq, honly⟩ := hrel
    obtain ⟨oa, oc, rfl⟩ := IntsOwn.shown hown
    have hsz := honly.size
    have HR := Lib.hid (And.intro hmost (And.intro hin (And.intro hown (And.intro hrd honly))))
    clear hmost hin hown hrd honly
    by_cases hgo : k ≤ 99 ∧ (ks.length : Int) < most
    · obtain ⟨hk99, hlm⟩ := hgo
      have HO1 := Lib.hid (IntsOwn.alloc' HR.out.2.2.1 (.cells #[.int .i64 k] 3))
      have HS := Lib.hid (IntsAt.one wr k)
      have hlo : w.heap.size ≤ (wr.alloc (.cells #[.int .i64 k] 3)).heap.size := by simp; omega
      have hln : ks.length + [k].length ≤ 17592186044416 := by simp; omega
      have HLN := Lib.hid hln
      clear hln
      go_wp2_with (at_builtin; refine wpList_append_ints rfl _ _ rfl w.heap.size _ _ ks [k] rfl HO1.out rfl HS.out HLN.out hlo ?_; intro v4 w4 hown4 hbel4 _ hsh4; obtain ⟨a4, c4, rfl⟩ := hsh4; generalize hL4 : ks ++ [k] = L4 at hown4 ⊢; have HL4 := Lib.hid hL4; have HN := Lib.hid (And.intro hown4 hbel4); clear hown4 hbel4 hL4)
      have hb4 : Below w.heap.size wr w4 := ((Below.refl _ _).alloc hsz _).trans HN.out.2
      have hr4 : Rd w4 B r bs q := HR.out.2.2.2.1.later hb4 hrl
      have HR4 := Lib.hid (And.intro hb4 hr4)
      clear hb4 hr4
      refine (pick_c w4 B r bs q step HR4.out.2 (by omega) (by omega) (by omega)).mono ?_
      rintro e w5 ⟨y, m5, rfl, hy0, hy1, _, hw5⟩
      have hr5 : Rd w5 B r bs (q + 1) := by rw [hw5]; exact HR4.out.2.picked m5
      have ho5 : Only w.heap.size r w w5 := by rw [hw5]; exact (HR.out.2.2.2.2.trans (below_only HR4.out.1)).trans (Only.picked _ _ _ _ _)
      have hown5 : IntsOwn w5 w.heap.size (.slice a4 L4.length c4) L4 := HN.out.1.only (by rw [hw5]; exact Only.picked w4.heap.size r q w4 m5) (Nat.le_refl _) hrl
      have hy7 : y < 7 := by have := hy1 (by omega); omega
      have HW := Lib.hid (And.intro hr5 (And.intro ho5 hown5))
      clear hr5 ho5 hown5 hy1 hw5
      go_wp2_with fail
      go_roundw
      case rel =>
        have hL := HL4.out
        have hll : L4.length = ks.length + 1 := by rw [← hL]; simp
        refine ⟨L4, k + 1 + y, q + 1, rfl, by omega, by omega, by omega, by omega, .inl (by omega), ?_, HW.out.2.2, HW.out.1, by omega, HW.out.2.1⟩
        intro z hz
        rw [← hL] at hz
        rcases List.mem_append.1 hz with h | h
        · exact HR.out.2.1 z h
        · obtain rfl : z = k := by simpa using h
          omega
      case measure => simp [intOf]; omega
    · by_cases hk99 : k ≤ 99
      · have hlm : ¬ ((ks.length : Int) < most) := fun h => hgo ⟨hk99, h⟩
        clear hgo
        go_wp2_with fail
        go_ret
        exact ⟨_, ks, q, rfl, HR.out.2.2.1, hkl2, HR.out.1, HR.out.2.1, HR.out.2.2.2.1, by omega, HR.out.2.2.2.2⟩
      · clear hgo
        go_wp2_with fail
        go_ret
        exact ⟨_, ks, q, rfl, HR.out.2.2.1, hkl2, HR.out.1, HR.out.2.1, HR.out.2.2.2.1, by omega, HR.out.2.2.2.2⟩
end Go.Proofs.YticfkfjijnfcbaaDoor

/- The model's l1Build: what it leaves; at depth 1. -/
namespace Go.Proofs.YticfkfjijnfcbaaDoor
open Go.RowKit

/-- What l1Build leaves: some tree in new blocks, no heavier than so; the reader moved on. -/
def Built (w : World) (B r : Nat) (bs : List Nat) (p n D : Nat) (e : Ending) (w' : World) : Prop :=
  ∃ (kv cv : Value) (t : Tr) (q : Nat), e = .returned (.agg #[kv, cv]) ∧ TreeQ w' (fun k => w.heap.size ≤ k ∧ k < w'.heap.size) kv cv t ∧ t.weight ≤ n + 8 ^ D ∧ Rd w' B r bs q ∧ q ≤ p + 8 ^ D ∧ Only w.heap.size r w w' ∧ (∀ n c, cv = .slice none n c → c = 0)

theorem IntsP.at {w w' : World} {P : Nat → Prop} {v : Value} {ks : List Int} (h : IntsP w P v ks) (hb : ∀ k, P k → w'.heap[k]? = w.heap[k]?) : IntsAt w' v ks := by
  obtain ⟨a, cap, hv, h1, h2, hnl, h3⟩ := h
  refine ⟨a, cap, hv, hnl, ?_⟩
  rcases h3 with h3 | ⟨b, o, h3, h4, h5⟩
  · exact .inl h3
  · exact .inr ⟨b, o, h3, fun i hi => by rw [cellP (hb b h4)]; exact h5 i hi⟩

/-- A leaf that l1Leaf left, as a tree. -/
theorem leaf_tree {w w' : World} {kv : Value} {g : Nat} {ks : List Int} (ho : IntsOwn w' (w.heap.size + 1) kv ks) (_hg : w.heap.size < g) (_hk : w'.heap[g]? = some (.cells #[] 33 (0, 0))) :
    TreeQ w' (fun k => w.heap.size ≤ k ∧ k < w'.heap.size) kv (.slice (some ⟨g, 0, none⟩) 0 0) (.mk ks []) := by
  exact TreeQ.mk ks [] kv (some ⟨g, 0, none⟩) 0 (fun _ => .bool false) (fun _ => .bool false) (ho.p.same (fun _ _ => rfl) (fun k h => ⟨by omega, h.2⟩)) (Nat.le_refl _) (by unfold maxLen; omega) (.inl rfl) (fun i h => by simp at h)

/-- A tree that is stored into the box of the result. -/
theorem box_out {w2 F : World} {bx : Nat} {x y kv cv : Value} (kb : w2.heap[bx]? = some (.cells #[x, y] 33 (0, 0))) (hF : F = (w2.setCell ⟨bx, 0, none⟩ kv).setCell ⟨bx, 1, none⟩ cv) :
    F.heap[bx]? = some (.cells #[kv, cv] 33 (0, 0)) ∧ (∀ k, k ≠ bx → F.heap[k]? = w2.heap[k]?) ∧ F.heap.size = w2.heap.size ∧ ∀ C, C ≤ bx → Below C w2 F := by
  refine ⟨?_, fun k h1 => ?_, ?_, fun C hC => ?_⟩
  · rw [hF]; exact set_blk (o := 1) _ (set_blk (o := 0) _ kb)
  · rw [hF, set_other _ _ _ _ _ h1, set_other _ _ _ _ _ h1]
  · rw [hF]; simp
  · rw [hF]; exact ((Below.refl _ _).setCell (p := ⟨bx, 0, none⟩) hC _).setCell (p := ⟨bx, 1, none⟩) hC _

set_option maxHeartbeats 1000000 in
theorem build_base (w : World) (B r : Nat) (bs : List Nat) (p : Nat) (v : Value) (ks : List Int) (wide : Int) (root : Bool) (h : Rd w B r bs p) (hk : IntsP w (fun k => k ≠ r ∧ k < w.heap.size) v ks) (hl : ks.length ≤ 100) :
    Calls Tryd.prog 138 #[.pointer (some ⟨r, 0, none⟩), v, .int .i64 wide, .int .i64 1, .bool root] w (Built w B r bs p ks.length 1) := by
  obtain ⟨W1, hW1⟩ : ∃ W1, W1 = w.alloc (.cells #[.slice none 0 0, .slice none 0 0] 33) := ⟨_, rfl⟩
  have hs1 : W1.heap.size = w.heap.size + 1 := by rw [hW1]; simp
  have hb1 : Below w.heap.size w W1 := by rw [hW1]; exact (Below.refl _ _).alloc (Nat.le_refl _) _
  have kb1 : W1.heap[w.heap.size]? = some (.cells #[.slice none 0 0, .slice none 0 0] 33 (0, 0)) := by rw [hW1, new_blk]
  have HL := Lib.hid (leaf_c W1 v ks (fun w' hb => hk.at (fun k hk => (hb.block k (by omega)).trans (hb1.block k hk.2))) (by omega))
  have hrl := h.lt
  have HR := Lib.hid h
  have H1 := Lib.hid (And.intro hb1 kb1)
  have HW1 := Lib.hid hW1
  clear h hk hb1 kb1 hW1
  go_enter Tryd.func138, Tryd.ntmps138
  go_wp2_with fail
  rw [← HW1.out]
  refine HL.out.mono ?_
  rintro e w2 ⟨kv, g, rfl, hown, _, hg, hkg, hb2⟩
  obtain ⟨a2, c2, rfl⟩ := hown.shown
  have hs2 := hb2.size
  have kb2 := (hb2.block w.heap.size (by omega)).trans H1.out.2
  have hb12 : Below w.heap.size w w2 := H1.out.1.trans (hb2.mono (by omega))
  obtain ⟨c1, c2', c3, c4⟩ := box2 kb2
  have HX := Lib.hid (And.intro hown (And.intro hkg (And.intro kb2 hb12)))
  clear hown hkg kb2 hb12 hb2
  go_wp2_with fail
  obtain ⟨F, hF⟩ : ∃ F, F = (w2.setCell ⟨w.heap.size, 0, none⟩ (.slice a2 ks.length c2)).setCell ⟨w.heap.size, 1, none⟩ (.slice (some ⟨g, 0, none⟩) 0 0) := ⟨_, rfl⟩
  rw [← hF]
  have hsF : F.heap.size = w2.heap.size := by rw [hF]; simp
  have kF : F.heap[w.heap.size]? = some (.cells #[.slice a2 ks.length c2, .slice (some ⟨g, 0, none⟩) 0 0] 33 (0, 0)) := by
    rw [hF]; exact set_blk (o := 1) _ (set_blk (o := 0) _ HX.out.2.2.1)
  have kE : ∀ k, k ≠ w.heap.size → F.heap[k]? = w2.heap[k]? := fun k h1 => by
    rw [hF, set_other _ _ _ _ _ h1, set_other _ _ _ _ _ h1]
  have hbF : Below w.heap.size w F := by
    rw [hF]; exact (HX.out.2.2.2.setCell (p := ⟨w.heap.size, 0, none⟩) (Nat.le_refl _) _).setCell (p := ⟨w.heap.size, 1, none⟩) (Nat.le_refl _) _
  clear hF c1 c2' c3 c4
  obtain ⟨d1, d2, d3, d4⟩ := box2 kF
  have htree := leaf_tree (w := W1) HX.out.1 hg HX.out.2.1
  refine bodyPost_ret (v := .agg #[.slice a2 ks.length c2, .slice (some ⟨g, 0, none⟩) 0 0]) (by simp [results, Tryd.results138, go_sem, d1, d2]) rfl ⟨_, _, .mk ks [], p, rfl, ?_, ?_, HR.out.later hbF hrl, by omega, below_only hbF, fun n c h => by cases h⟩
  · exact htree.same (fun k hk => kE k (by omega)) (fun k hk => by omega)
  · simp [Tr.weight, Tr.weights]
end Go.Proofs.YticfkfjijnfcbaaDoor

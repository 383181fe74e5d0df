/- Appends onto a slice of trees of the call's own; slices of trees that can be read. -/
import Derived.Test.YtdcifdpkfcgmhaaDoorProg
import Derived.Test.YtdcifdpkfcgmhaaDoorCrS3
import Derived.StillTail
import Derived.Test.YtdcifdpkfcgmhaaDoorCr0
import Derived.Laws.AppendOwnNone
import Derived.OwnWalk

/- A region that draws its order and holds one operation that turns more than the others: an invariant with what holds before and behind it. -/
namespace Go.Proofs.YtdcifdpkfcgmhaaDoor

section
variable {P : Program} {ops : Array Oper} {md : Region.Mode}

/-- By an invariant: whenever an operation of the head comes, it finds what those before it left, and leaves its own; behind the head the rest. -/
theorem wpAny_headL {Q : Exit → Act → World → Prop} {n : Nat} (hs : Region.sinkB md ops n = true) (hc : Region.chainB md ops n = true) (hn : n < ops.size)
    (B : Array Bool → Act → World → Prop) (I : Nat → Act → World → Prop)
    (hback : backB md ops = true)
    (hg : ∀ i oi, i < n → ops[i]? = some oi → oi.guard = none)
    (hstep : ∀ i oi, i < n → ops[i]? = some oi → ∀ listed a w, listed.size = ops.size → listed.getD i true = false → B listed a w → (∀ e, e ∈ oi.after → Region.binds md e = true → I e.on a w) →
      Oper.wp P oi a w (fun a' w' => B (listed.setIfInBounds i true) a' w' ∧ I i a' w' ∧ ∀ j, j < n → j ≠ i → I j a w → I j a' w') Q)
    (htail : ∀ a w, B (headDone n ops.size) a w → (∀ j, j < n → I j a w) → wpAny P md ops Q (ops.size - n) (headDone n ops.size) a w) :
    ∀ (d : Nat) (listed : Array Bool) (a : Act) (w : World), HeadInv md ops n listed → left listed n = d → B listed a w → (∀ j, j < n → listed.getD j true = true → I j a w) →
      wpAny P md ops Q (d + (ops.size - n)) listed a w := by
  intro d
  induction d with
  | zero =>
    intro listed a w inv hl hB hI
    have hall := left_zero n hl
    have e : listed = headDone n ops.size := by
      apply Array.ext
      · rw [inv.size]; simp [headDone]
      · intro i h1 h2
        have hsz := inv.size
        by_cases hi : i < n
        · have := hall i hi
          simp [h1] at this
          simp [headDone, hi, this]
        · have := inv.tail i (by omega) (by omega)
          simp [h1] at this
          simp [headDone, hi, this]
    rw [e] at hB
    rw [e, Nat.zero_add]
    exact htail a w hB (fun j hj => hI j hj (hall j hj))
  | succ d ih =>
    intro listed a w inv hl hB hI
    obtain ⟨j0, hj0, hu0⟩ := left_pos n (by omega : 0 < left listed n)
    rw [show d + 1 + (ops.size - n) = (d + (ops.size - n)) + 1 by omega]
    refine ⟨fun hr => ?_, fun i hi => ?_⟩
    · exact absurd hr (ready_some hback inv (by omega) j0 hj0 hu0)
    · have hin : i < n := by
        rcases Nat.lt_or_ge i n with h | h
        · exact h
        · exact absurd hi (tail_waits hs hc hn inv _ j0 rfl hj0 hu0 i h)
      obtain ⟨hu, oi, hoi, hall⟩ := mem_ready.1 hi
      have hst := hstep i oi hin hoi listed a w inv.size hu hB (fun e he hb => ?_)
      · unfold wpOp
        rw [hoi]
        have hw : Region.wanted oi (yielded ops a.tmps) = true := by simp [Region.wanted, hg i oi hin hoi]
        simp only [hw, if_true]
        left
        refine Oper.wp_mono (fun a' w' h => ?_) hst
        obtain ⟨h1, h2, h3⟩ := h
        have hisz : i < listed.size := by rw [inv.size]; omega
        have hls := left_set hu hisz n
        rw [if_pos hin] at hls
        refine ih _ a' w' (inv.set hi hin) (by omega) h1 (fun j hj hlj => ?_)
        by_cases e : j = i
        · subst e; exact h2
        · refine h3 j hj e (hI j hj ?_)
          exact (getD_set_ne true (Ne.symm e)).symm.trans hlj
      · have hl2 := hall e he hb
        have hlt : e.on < n := by
          rcases Nat.lt_or_ge e.on n with h | h
          · exact h
          · have := inv.tail e.on h (by
              rcases Nat.lt_or_ge e.on listed.size with h' | h'
              · rw [inv.size] at h'; exact h'
              · simp [Array.getElem?_eq_none h'] at hl2)
            exfalso
            rcases Nat.lt_or_ge e.on listed.size with h' | h'
            · simp [h'] at this hl2; rw [this] at hl2; cases hl2
            · simp [Array.getElem?_eq_none h'] at hl2
        refine hI e.on hlt ?_
        rcases Nat.lt_or_ge e.on listed.size with h' | h'
        · simp [h'] at hl2 ⊢; exact hl2
        · simp [Array.getElem?_eq_none h'] at hl2


theorem wp_region_one {rid : Nat} {a0 : Act} {w0 : World} {Q : Exit → Act → World → Prop} {n : Nat} (hm : P.follows .mixedOrders = true) (hs : Region.sinkB .any ops n = true) (hc : Region.chainB .any ops n = true) (hn : n < ops.size) (hback : backB .any ops = true)
    (sl : Nat → Nat) (hsl : ∀ i j, i < n → j < n → sl i = sl j → i = j) (R : World → World → Prop) (hRr : ∀ w, R w w) (hRt : ∀ a b c, R a b → R b c → R a c)
    (c : Nat) (hcn : c < n) (G : Bool → World → Prop) (hG0 : G false w0.drew)
    (J : Nat → Value → World → Prop) (hJ : ∀ j v w w', J j v w → R w w' → J j v w')
    (hg : ∀ i oi, i < n → ops[i]? = some oi → oi.guard = none ∧ oi.dst = some (sl i))
    (hstep : ∀ i oi, i < n → i ≠ c → ops[i]? = some oi → ∀ a w b, Agree a0 a sl n → R w0.drew w → G b w → (∀ e, e ∈ oi.after → Region.binds .any e = true → J e.on (a.tmps[sl e.on]?.getD undef) w) →
      Oper.wp P oi a w (fun a' w' => ∃ v, a' = a.put oi.dst v ∧ sl i < a.tmps.size ∧ J i v w' ∧ R w w' ∧ G b w') Q)
    (hcall : ∀ oi, ops[c]? = some oi → ∀ a w, Agree a0 a sl n → R w0.drew w → G false w → (∀ e, e ∈ oi.after → Region.binds .any e = true → J e.on (a.tmps[sl e.on]?.getD undef) w) →
      Oper.wp P oi a w (fun a' w' => ∃ v, a' = a.put oi.dst v ∧ sl c < a.tmps.size ∧ J c v w' ∧ R w w' ∧ G true w') Q)
    (htail : ∀ a w, Agree a0 a sl n → R w0.drew w → G true w → (∀ j, j < n → J j (a.tmps[sl j]?.getD undef) w) → wpAny P .any ops Q (ops.size - n) (headDone n ops.size) a w) :
    (Code.region rid ops true).wp P Q a0 w0 := by
  refine wp_region_any hm ?_
  have hput : ∀ (i : Nat) (a : Act) (v : Value), i < n → sl i < a.tmps.size → (a.put (some (sl i)) v).tmps[sl i]?.getD undef = v ∧ ∀ j, j < n → j ≠ i → (a.put (some (sl i)) v).tmps[sl j]?.getD undef = a.tmps[sl j]?.getD undef := fun i a v hi hsz => by
    refine ⟨?_, fun j hj hne => ?_⟩
    · simp only [Act.put]
      rw [Array.getElem?_setIfInBounds_self_of_lt hsz]
      rfl
    · simp only [Act.put]
      rw [Array.getElem?_setIfInBounds_ne (fun e => hne (hsl j i hj hi e.symm))]
  have h := wpAny_headL (P := P) (ops := ops) (md := .any) (Q := Q) hs hc hn (fun listed a w => Agree a0 a sl n ∧ R w0.drew w ∧ G (listed.getD c true) w) (fun j a w => J j (a.tmps[sl j]?.getD undef) w) hback
    (fun i oi hi ho => (hg i oi hi ho).1)
    (fun i oi hi ho listed a w hls hu hB hI => by
      by_cases hic : i = c
      · subst hic
        rw [hu] at hB
        refine Oper.wp_mono (fun a' w' h => ?_) (hcall oi ho a w hB.1 hB.2.1 hB.2.2 hI)
        obtain ⟨v, rfl, hsz, hv, hR, hG⟩ := h
        rw [(hg i oi hi ho).2]
        obtain ⟨hself, hoth⟩ := hput i a v hi hsz
        refine ⟨⟨hB.1.put hi v, hRt _ _ _ hB.2.1 hR, ?_⟩, ?_, fun j hj hne hIj => ?_⟩
        · have : (listed.setIfInBounds i true).getD i true = true := by simp [show i < listed.size by omega]
          rw [this]; exact hG
        · rw [hself]; exact hv
        · rw [hoth j hj hne]; exact hJ j _ w w' hIj hR
      · refine Oper.wp_mono (fun a' w' h => ?_) (hstep i oi hi hic ho a w _ hB.1 hB.2.1 hB.2.2 hI)
        obtain ⟨v, rfl, hsz, hv, hR, hG⟩ := h
        rw [(hg i oi hi ho).2]
        obtain ⟨hself, hoth⟩ := hput i a v hi hsz
        refine ⟨⟨hB.1.put hi v, hRt _ _ _ hB.2.1 hR, ?_⟩, ?_, fun j hj hne hIj => ?_⟩
        · rw [getD_set_ne true hic]; exact hG
        · rw [hself]; exact hv
        · rw [hoth j hj hne]; exact hJ j _ w w' hIj hR)
    (fun a w hB hI => htail a w hB.1 hB.2.1 (by
      have h := hB.2.2
      have e : (headDone n ops.size).getD c true = true := by
        have : c < ops.size := by omega
        simp [headDone, hcn, this]
      rw [e] at h
      exact h) hI) n (Array.replicate ops.size false) a0 w0.drew
    ⟨by simp, fun j oj _ hl => (by rw [getD_replicate_false] at hl; exact absurd hl (by simp)), fun t _ ht => (by simp [ht])⟩ ?_
    ⟨⟨rfl, rfl, fun _ _ => rfl⟩, hRr _, by
      have e : (Array.replicate ops.size false).getD c true = false := by simp [show c < ops.size by omega]
      rw [e]; exact hG0⟩ (fun j hj hl => ?_)
  · rw [show n + (ops.size - n) = ops.size by omega] at h
    exact h
  · have : ∀ m, m ≤ ops.size → left (Array.replicate ops.size false) m = m := by
      intro m
      induction m with
      | zero => intro _; rfl
      | succ m ih => intro hm; unfold left; rw [ih (by omega)]; simp [show m < ops.size by omega]
    exact this n (by omega)
  · simp [show j < ops.size by omega] at hl
end
end Go.Proofs.YtdcifdpkfcgmhaaDoor

/- A region that draws its order and holds several operations that turn more than the others, stores among them. -/
namespace Go.Proofs.YtdcifdpkfcgmhaaDoor

section
variable {P : Program} {ops : Array Oper} {md : Region.Mode}

theorem wp_region_stores {rid : Nat} {a0 : Act} {w0 : World} {Q : Exit → Act → World → Prop} {n : Nat} (hm : P.follows .mixedOrders = true) (hs : Region.sinkB .any ops n = true) (hc : Region.chainB .any ops n = true) (hn : n < ops.size) (hback : backB .any ops = true)
    (sl : Nat → Nat) (hsl : ∀ i j, i < n → j < n → sl i = sl j → i = j) (R : World → World → Prop) (hRr : ∀ w, R w w) (hRt : ∀ a b c, R a b → R b c → R a c)
    (G : (Nat → Bool) → World → Prop) (hG0 : G (fun _ => false) w0.drew) (hGe : ∀ f g w, (∀ j, j < n → f j = g j) → G f w → G g w)
    (J : Nat → Value → World → Prop) (hJ : ∀ j v w w', J j v w → R w w' → J j v w')
    (hg : ∀ i oi, i < n → ops[i]? = some oi → oi.guard = none ∧ (oi.dst = some (sl i) ∨ (oi.dst = none ∧ ∀ v v' w, J i v w → J i v' w)))
    (hstep : ∀ i oi, i < n → ops[i]? = some oi → ∀ a w f, f i = false → Agree a0 a sl n → R w0.drew w → G f w → (∀ e, e ∈ oi.after → Region.binds .any e = true → J e.on (a.tmps[sl e.on]?.getD undef) w) →
      Oper.wp P oi a w (fun a' w' => ∃ v, a' = a.put oi.dst v ∧ sl i < a.tmps.size ∧ J i v w' ∧ R w w' ∧ G (fun j => if j = i then true else f j) w') Q)
    (htail : ∀ a w, Agree a0 a sl n → R w0.drew w → G (fun _ => true) w → (∀ j, j < n → J j (a.tmps[sl j]?.getD undef) w) → wpAny P .any ops Q (ops.size - n) (headDone n ops.size) a w) :
    (Code.region rid ops true).wp P Q a0 w0 := by
  refine wp_region_any hm ?_
  have hput : ∀ (i : Nat) (a : Act) (v : Value), i < n → sl i < a.tmps.size → (a.put (some (sl i)) v).tmps[sl i]?.getD undef = v ∧ ∀ j, j < n → j ≠ i → (a.put (some (sl i)) v).tmps[sl j]?.getD undef = a.tmps[sl j]?.getD undef := fun i a v hi hsz => by
    refine ⟨?_, fun j hj hne => ?_⟩
    · simp only [Act.put]
      rw [Array.getElem?_setIfInBounds_self_of_lt hsz]
      rfl
    · simp only [Act.put]
      rw [Array.getElem?_setIfInBounds_ne (fun e => hne (hsl j i hj hi e.symm))]
  have h := wpAny_headL (P := P) (ops := ops) (md := .any) (Q := Q) hs hc hn (fun listed a w => Agree a0 a sl n ∧ R w0.drew w ∧ G (fun j => listed.getD j true) w) (fun j a w => J j (a.tmps[sl j]?.getD undef) w) hback
    (fun i oi hi ho => (hg i oi hi ho).1)
    (fun i oi hi ho listed a w hls hu hB hI => by
      refine Oper.wp_mono (fun a' w' h => ?_) (hstep i oi hi ho a w _ hu hB.1 hB.2.1 hB.2.2 hI)
      obtain ⟨v, rfl, hsz, hv, hR, hG⟩ := h
      rcases (hg i oi hi ho).2 with hd | ⟨hd, hjn⟩
      · rw [hd]
        obtain ⟨hself, hoth⟩ := hput i a v hi hsz
        refine ⟨⟨hB.1.put hi v, hRt _ _ _ hB.2.1 hR, hGe _ _ _ (fun j hj => ?_) hG⟩, ?_, fun j hj hne hIj => ?_⟩
        · by_cases e : j = i
          · subst e
            rw [if_pos rfl]
            simp [show j < listed.size by omega]
          · rw [if_neg e, getD_set_ne true (Ne.symm e)]
        · rw [hself]; exact hv
        · rw [hoth j hj hne]; exact hJ j _ w w' hIj hR
      · rw [hd]
        refine ⟨⟨hB.1, hRt _ _ _ hB.2.1 hR, hGe _ _ _ (fun j hj => ?_) hG⟩, hjn _ _ _ hv, fun j hj hne hIj => hJ j _ w w' hIj hR⟩
        by_cases e : j = i
        · subst e
          rw [if_pos rfl]
          simp [show j < listed.size by omega]
        · rw [if_neg e, getD_set_ne true (Ne.symm e)])
    (fun a w hB hI => htail a w hB.1 hB.2.1 (hGe _ _ _ (fun j hj => by
      have : j < ops.size := by omega
      simp [headDone, hj, this]) hB.2.2) hI) n (Array.replicate ops.size false) a0 w0.drew
    ⟨by simp, fun j oj _ hl => (by rw [getD_replicate_false] at hl; exact absurd hl (by simp)), fun t _ ht => (by simp [ht])⟩ ?_
    ⟨⟨rfl, rfl, fun _ _ => rfl⟩, hRr _, hGe _ _ _ (fun j hj => by simp [show j < ops.size by omega]) hG0⟩ (fun j hj hl => ?_)
  · rw [show n + (ops.size - n) = ops.size by omega] at h
    exact h
  · have : ∀ m, m ≤ ops.size → left (Array.replicate ops.size false) m = m := by
      intro m
      induction m with
      | zero => intro _; rfl
      | succ m ih => intro hm; unfold left; rw [ih (by omega)]; simp [show m < ops.size by omega]
    exact this n (by omega)
  · simp [show j < ops.size by omega] at hl
end
end Go.Proofs.YtdcifdpkfcgmhaaDoor

/- Appends onto a slice of trees of the call's own; slices of trees that can be read. -/
namespace Go.Proofs.YtdcifdpkfcgmhaaDoor
open Go.RowKit

/-- The cells of a row of trees. -/
def flatT (K : List (Value × Value)) : List Value := K.flatMap (fun p => [p.1, p.2])
theorem flatT_length (K : List (Value × Value)) : (flatT K).length = K.length * 2 := by
  induction K with
  | nil => rfl
  | cons p r ih => simp [flatT] at ih ⊢; omega
theorem flatT_append (K M : List (Value × Value)) : flatT (K ++ M) = flatT K ++ flatT M := by simp [flatT]
theorem flatT_get (K : List (Value × Value)) (i : Nat) (h : i < K.length) : (flatT K)[i * 2]? = some K[i].1 ∧ (flatT K)[i * 2 + 1]? = some K[i].2 := by
  induction K generalizing i with
  | nil => simp at h
  | cons p r ih =>
    cases i with
    | zero => simp [flatT]
    | succ i =>
      have := ih i (by simpa using h)
      rw [show (i + 1) * 2 = i * 2 + 1 + 1 by omega]
      simpa [flatT] using this
theorem flatT_drop (K : List (Value × Value)) (i : Nat) : flatT (K.drop i) = (flatT K).drop (i * 2) := by
  induction K generalizing i with
  | nil => simp [flatT]
  | cons p r ih =>
    cases i with
    | zero => simp
    | succ i =>
      rw [show (i + 1) * 2 = i * 2 + 1 + 1 by omega]
      simpa [flatT] using ih i
theorem flatT_take (K : List (Value × Value)) (i : Nat) : flatT (K.take i) = (flatT K).take (i * 2) := by
  induction K generalizing i with
  | nil => simp [flatT]
  | cons p r ih =>
    cases i with
    | zero => simp [flatT]
    | succ i =>
      rw [show (i + 1) * 2 = i * 2 + 1 + 1 by omega]
      simpa [flatT] using ih i

/-- A slice of trees that can be read. -/
def KidsAt (w : World) (v : Value) (K : List (Value × Value)) : Prop :=
  ∃ (a : Option Addr) (cap : Nat), v = .slice a K.length cap ∧ (a = none → cap = 0) ∧
    (K = [] ∨ ∃ b o, a = some ⟨b, o, none⟩ ∧ ∀ j u, (flatT K)[j]? = some u → w.cell? ⟨b, o + j, none⟩ = some u)

abbrev TreesOwn (w : World) (lo : Nat) (v : Value) (K : List (Value × Value)) : Prop := w.ownsRow lo 33 2 v K.length (flatT K)

theorem TreesOwn.shown {w : World} {lo : Nat} {v : Value} {K : List (Value × Value)} (h : TreesOwn w lo v K) : ∃ a c, v = .slice a K.length c := by
  obtain ⟨h1, ⟨h2, h3⟩ | ⟨g, cap, cur, hv, hbb, hr⟩⟩ := h
  · exact ⟨_, _, by rw [h2, h3]⟩
  · exact ⟨_, _, hv⟩

theorem wpList_append_trees {w : World} {ops : Array Oper} {rest : List Oper} {o : Oper} {a : Act} {Q : Exit → Act → World → Prop} (hgd : o.guard = none) (s x : Operand)
    (ho : o.op = .call { callee := .builtin .append, args := #[s, x], argTypes := #[31, 31] })
    (lo : Nat) (v y : Value) (K M : List (Value × Value)) (hs : a.eval s = v) (hown : TreesOwn w lo v K) (hx : a.eval x = y) (hsrc : KidsAt w y M) (h1 : ∀ u, u ∈ flatT M → u.oneCell' = true)
    (hlen : K.length + M.length ≤ 100000000) (hlo : lo ≤ w.heap.size)
    (h : ∀ v' w', TreesOwn w' lo v' (K ++ M) → Below lo w w' → w.grownBy w' v.ownBlock → (∃ a c, v' = .slice a (K ++ M).length c) → wpList Tryd.prog ops Q rest (a.put o.dst v') w') : wpList Tryd.prog ops Q (o :: rest) a w := by
  obtain ⟨i0, hi, hz0, hz1, hz2⟩ := info_parts Tryd.infoTree
  obtain ⟨pa, cap, rfl, hnl, hat⟩ := hsrc
  rcases pa with _ | p
  · obtain rfl := hnl rfl
    obtain rfl : M = [] := by
      rcases hat with h | ⟨b, o, h, _⟩
      · exact h
      · cases h
    refine wpList_append_own_none hgd s x 31 ho lo 33 i0 2 Tryd.underlying31 hi v _ _ hs hown hx (h v w (by simpa using hown) (Below.refl _ _) (World.grownBy.refl _ _) ?_)
    simpa using TreesOwn.shown hown
  · refine wpList_append_own w hgd s x 31 ho lo 33 i0 _ 2 48 Tryd.underlying31 hi hz0 hz1 hz2 rfl (by decide) v _ _ hs hown p M.length cap (flatT M) hx (flatT_length M) (fun j u hj => ?_) h1 (by unfold maxLen; omega) (by omega) hlo (fun v' w' hown' hgrow _ => ?_)
    · rcases hat with h | ⟨b, o, h, hc⟩
      · rw [h] at hj; simp [flatT] at hj
      · cases h
        rw [Addr.add_lit]
        exact hc j u hj
    · have hown2 : TreesOwn w' lo v' (K ++ M) := by
        unfold TreesOwn
        rw [List.length_append, flatT_append]
        exact hown'
      refine h v' w' hown2 ((Below.refl lo w).grown hgrow hlo (fun k hk => (hown.lt k hk).1)) hgrow (TreesOwn.shown hown2)

/-- What lies in memory as kids, as such a slice. -/
theorem KidsIn.at {w : World} {B n cap : Nat} {a : Option Addr} {kvs cvs : Nat → Value} (h : KidsIn w B a n kvs cvs) (hn : a = none → cap = 0) :
    KidsAt w (.slice a n cap) ((List.range n).map (fun i => (kvs i, cvs i))) := by
  refine ⟨a, cap, by simp, hn, ?_⟩
  rcases h with h | ⟨b, o, rfl, hb, hc⟩
  · subst h; exact .inl rfl
  · refine .inr ⟨b, o, rfl, fun j u hj => ?_⟩
    have hl : j < n * 2 := by
      have := (List.getElem?_eq_some_iff.1 hj).1
      rwa [flatT_length, List.length_map, List.length_range] at this
    have hg := flatT_get ((List.range n).map (fun i => (kvs i, cvs i))) (j / 2) (by simp; omega)
    have hc' := hc (j / 2) (by omega)
    rcases Nat.mod_two_eq_zero_or_one j with e | e
    · rw [show j / 2 * 2 = j by omega] at hg hc'
      rw [hg.1] at hj
      simp at hj; subst hj
      simpa using hc'.1
    · rw [show j / 2 * 2 + 1 = j by omega] at hg
      rw [hg.2] at hj
      simp at hj; subst hj
      rw [show o + j = o + j / 2 * 2 + 1 by omega]
      simpa using hc'.2

/-- A part of such a slice. -/
theorem KidsAt.part {w : World} {b o n : Nat} {K : List (Value × Value)} (h : ∀ j u, (flatT K)[j]? = some u → w.cell? ⟨b, o + j, none⟩ = some u) (lo hi cap : Nat) (h1 : lo ≤ hi) (h2 : hi ≤ K.length) (hn : n = hi - lo) :
    KidsAt w (.slice (some ⟨b, o + lo * 2, none⟩) n cap) ((K.drop lo).take (hi - lo)) := by
  have hl : ((K.drop lo).take (hi - lo)).length = hi - lo := by simp; omega
  refine ⟨some ⟨b, o + lo * 2, none⟩, cap, by rw [hl, hn], by simp, .inr ⟨b, o + lo * 2, rfl, fun j u hj => ?_⟩⟩
  rw [flatT_take, flatT_drop, List.getElem?_take] at hj
  split at hj
  · rw [List.getElem?_drop] at hj
    rw [Nat.add_assoc]
    exact h _ _ hj
  · cases hj
theorem KidsAt.none' {w : World} (a : Option Addr) (cap : Nat) (h : a = none → cap = 0) : KidsAt w (.slice a 0 cap) [] := ⟨a, cap, rfl, h, .inl rfl⟩
theorem KidsAt.one (w : World) (x y : Value) : KidsAt (w.alloc (.cells #[x, y] 33)) (.slice (some ⟨w.heap.size, 0, none⟩) 1 1) [(x, y)] := by
  refine ⟨_, _, rfl, by simp, .inr ⟨_, 0, rfl, fun j u hj => ?_⟩⟩
  have hb := box2 (new_blk w (.cells #[x, y] 33))
  have hl : j < 2 := by have := (List.getElem?_eq_some_iff.1 hj).1; simpa [flatT] using this
  rw [Nat.zero_add]
  rcases (by omega : j = 0 ∨ j = 1) with rfl | rfl
  · simp [flatT] at hj; subst hj; exact hb.1
  · simp [flatT] at hj; subst hj; exact hb.2.1

/-- A row of trees of the call's own: a tree's kids. -/
theorem TreesOwn.kids {w : World} {lo : Nat} {v : Value} {K : List (Value × Value)} (h : TreesOwn w lo v K) :
    ∃ a cap, v = .slice a K.length cap ∧ K.length ≤ cap ∧ cap ≤ maxLen ∧ KidsIn w w.heap.size a K.length (fun i => (K.getD i (undef, undef)).1) (fun i => (K.getD i (undef, undef)).2) := by
  have h0 := h
  obtain ⟨h1, ⟨h2, h3⟩ | ⟨g, cap, cur, hv, hb, hg, hn, hm, hs, ht⟩⟩ := h
  · exact ⟨none, 0, by rw [h2, h3], by omega, by unfold maxLen; omega, .inl h3⟩
  · subst hv
    refine ⟨_, cap, rfl, hn, hm, .inr ⟨g, 0, rfl, (Array.getElem?_eq_some_iff.1 hg).1, fun i hi => ?_⟩⟩
    have hfg := flatT_get K i hi
    have e1 := World.ownsRow.cellAt h0 (i * 2) (by omega)
    have e2 := World.ownsRow.cellAt h0 (i * 2 + 1) (by omega)
    rw [Nat.zero_add, e1, e2]
    simp only [List.getD_eq_getElem?_getD, List.getElem?_eq_getElem hi, Option.getD_some]
    exact hfg
end Go.Proofs.YtdcifdpkfcgmhaaDoor

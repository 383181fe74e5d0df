/- Ranks tell keys, and keys tell ranks; plain data. -/
import Derived.Test.YtdcifdpkfcgmhaaDoorProg
import Derived.Test.YtdcifdpkfcgmhaaDoorCr0
import Derived.Test.YtdcifdpkfcgmhaaDoorCr16
import Derived.Test.YtdcifdpkfcgmhaaDoorCr8
import Derived.Test.YtdcifdpkfcgmhaaDoorCrS8
import Derived.Test.YtdcifdpkfcgmhaaDoorCrS2
import Derived.Test.YtdcifdpkfcgmhaaDoorCrS11
import Derived.Test.YtdcifdpkfcgmhaaDoorCr14
import Derived.Test.YtdcifdpkfcgmhaaDoorCr17
import Derived.RangeFuncNested
import Derived.Shelf.RegionOpen
import Derived.WalkKit
import Derived.OwnWalkIn
import Derived.TacticsInMore
import Derived.Test.YtdcifdpkfcgmhaaDoorCr10
import Derived.Test.YtdcifdpkfcgmhaaDoorCr15
import Derived.Test.YtdcifdpkfcgmhaaDoorCr13
import Derived.Test.YtdcifdpkfcgmhaaDoorCr20
import Derived.Lib.SliceRun
import Derived.Test.YtdcifdpkfcgmhaaDoorCr5
import Derived.Test.YtdcifdpkfcgmhaaDoorCr18
import Derived.Test.YtdcifdpkfcgmhaaDoorCr19

/- The contracts of slices.AppendSeq and slices.Collect over the keys of a node. -/
namespace Go.Proofs.YtdcifdpkfcgmhaaDoor
open Go.RowKit
attribute [local go_sem] Oper.semAt_some

set_option maxRecDepth 100000 in
set_option maxHeartbeats 4000000 in
theorem appendSeq_c {w : World} {lo hi b : Nat} {t : Tr} (ht : NodeIn w lo hi b t) (hwt : t.weight ≤ 1048576) (hhi : hi ≤ w.heap.size) :
    Calls Tryd.prog 121 #[.slice none 0 0, .func (.func 99) #[.pointer (some ⟨b, 0, none⟩)] #[]] w fun e w' => ∃ v, e = .returned v ∧ IntsOwn w' w.heap.size v t.keys ∧ Below w.heap.size w w' := by
  have hit := inOrder_iter ht hwt hhi
  have hkl := Tr.keys_length_le t
  have HIT := Lib.hid hit
  have hlt0 := ht.range
  clear hit ht
  refine (callsIn_wide (n := 9)).1 (callsIn_of_wp_marks Tryd.func121 rfl trivial ?_ rfl)
  simp only [Tryd.ntmps121, List.size_toArray, List.length_cons, List.length_nil, Nat.reduceAdd, Nat.reduceSub, Array.replicate_succ, Array.replicate_zero, List.push_toArray, List.append_toArray, List.nil_append, List.cons_append]
  gi_wp2
  obtain ⟨W2, hW2⟩ : ∃ W2, W2 = w.alloc (.cells #[.slice none 0 0] 22) := ⟨_, rfl⟩
  rw [← hW2]
  have hs2 : W2.heap.size = w.heap.size + 1 := by rw [hW2]; simp
  have hk2 : ∀ K, Keep K w W2 := fun K => by rw [hW2]; exact Keep.alloc K _ _
  have b3 : W2.heap[w.heap.size]? = some (.cells #[.slice none 0 0] 22 (0, 0)) := by rw [hW2, new_blk]
  have B3 := Lib.hid b3
  clear hW2 b3
  refine wp_loop (fb := #[.pointer (some ⟨b, 0, none⟩)]) (lb := #[]) rfl (enters_of Tryd.func99 (by kernel_rfl) rfl) HIT.out (hk2 _) (fun x => rfl)
    (fun k => k < w.heap.size) (fun k h => by omega) (fun k h => by omega)
    (fun pre Pv W => ¬ Pv w.heap.size ∧ ∃ v, W.heap[w.heap.size]? = some (.cells #[v] 22 (0, 0)) ∧ IntsOwn W (w.heap.size + 1) v pre ∧ ∀ k, v.ownBlock = some k → ¬ Pv k)
    (fun c pre Pv W => False)
    (fun pre Pv A Pv' B h hk hp => by
      obtain ⟨h1, v, h2, h3, h4⟩ := h
      have l2 := (Array.getElem?_eq_some_iff.1 h2).1
      refine ⟨fun h => ?_, v, (hk.block _ l2 h1).trans h2, ownsRow_held h3 (fun k e => hk.block _ (h3.lt k e).2 (h4 k e)), fun k e h => ?_⟩
      · exact (hp _ h).elim h1 (fun h => by omega)
      · exact (hp _ h).elim (h4 k e) (fun h => by have := (h3.lt k e).2; omega))
    (fun c pre Pv A Pv' B h hk hp => h)
    ⟨by omega, _, B3.out, ⟨rfl, .inl ⟨rfl, rfl⟩⟩, fun k e => by cases e⟩
    (fun x => { tmps := #[.slice none 0 0, .func (.func 99) #[.pointer (some ⟨b, 0, none⟩)] #[], .pointer (some ⟨w.heap.size, 0, none⟩), undef, .slice none 0 0, .int .i64 x, .func (.func 99) #[.pointer (some ⟨b, 0, none⟩)] #[], .int .i64 x, undef, undef, undef, undef, undef], defers := [] })
    ?assign ?body ?done ?stop
  case assign =>
    intro l' m x W' K hK
    dsimp only [intEnc]
    gi_wp2
    exact hK
  case body =>
    intro l' m pre x Pv W' hI hkW hsub hbnd hp
    obtain ⟨h1, v, h2, h3, h4⟩ := hI
    obtain ⟨va, vc, rfl⟩ := IntsOwn.shown h3
    obtain ⟨c1, f1⟩ := box1 h2
    have hlen : pre.length ≤ 1048577 := by have := hp.length_le; simp at this; omega
    have hbase : w.heap.size + 1 ≤ W'.heap.size := by have := hkW.size; omega
    have HH := Lib.hid (And.intro h2 (And.intro h3 h4))
    have HB := Lib.hid hbnd
    have HLN := Lib.hid hlen
    clear h2 h3 h4 hp hkW hsub hbnd hlen
    gi_wp2_with (gi_at_builtin; refine wpListIn_append_one (by rfl) _ _ (by rfl) (w.heap.size + 1) _ _ x (by rfl) HH.out.2.1 (by rfl) HLN.out hbase ?_; intro a8 c8 w8 L8 hL8 hown8 hk8 hat8; have hq6 := (hk8.block w.heap.size (by omega) (fun e => by have := (HH.out.2.1.lt _ e).1; omega)); have c6' := (cell_of_blk hq6).trans c1; have f6' := (World.frozen?_of_block hq6).trans f1; have H8 := Lib.hid (And.intro hown8 (And.intro hk8 hat8)); clear hown8 hk8 hat8 hq6)
    refine ⟨(H8.out.2.1.mono (fun k _ h e => HH.out.2.2 k e h)).trans (Keep.setCell _ _ _ _ h1), h1, _, set_blk (o := 0) _ ((H8.out.2.1.block w.heap.size (by omega) (fun e => by have := (HH.out.2.1.lt _ e).1; omega)).trans HH.out.1), ?_, fun k e hk => ?_⟩
    · rw [← hL8.out]
      exact ownsRow_held H8.out.1 (fun k e => set_other _ _ _ _ _ (by have := (H8.out.1.lt k e).1; omega))
    · rcases H8.out.2.2 with h | h
      · exact HH.out.2.2 k (h.symm.trans e) hk
      · rw [h] at e
        simp only [Option.some.injEq] at e
        have := HB.out k hk
        omega
  case done =>
    intro W3 hk3 hI hlt hD
    obtain ⟨h1, v, h2, h3, h4⟩ := hI
    obtain ⟨va, vc, rfl⟩ := IntsOwn.shown h3
    obtain ⟨c1, f1⟩ := box1 h2
    have hno : ∀ k, (Value.slice va t.keys.length vc).ownBlock = some k → k ≠ W2.heap.size := fun k e e2 => h4 k e (.inr (.inl e2))
    rw [hs2] at hD hno
    have HD := Lib.hid hD
    have HH := Lib.hid (And.intro h3 (And.intro hno hk3))
    clear h2 h3 h4 hD hno hk3
    gi_wp2
    refine ⟨by simp, .inl ⟨_, _, rfl, run_takeDeferred HD.out, ?_⟩⟩
    refine ⟨_, results_tmp rfl _ _ _, _, rfl, ?_, ?_⟩
    · exact IntsOwn.lower (lo := w.heap.size + 1) (ownsRow_held HH.out.1 (fun q e => World.putObj_heap_other (HH.out.2.1 q e))) (by omega)
    · exact (((hk2 _).trans HH.out.2.2).trans (Keep.putObj _ _ (w.heap.size + 1) (.deferred none) (show ¬ w.heap.size + 1 < w.heap.size by omega))).below (Nat.le_refl _) (fun k h => h)
  case stop =>
    rintro c pre' W3 hk3 hp h hlt hD
    exact h.elim

theorem collect_c {w : World} {lo hi b : Nat} {t : Tr} (ht : NodeIn w lo hi b t) (hwt : t.weight ≤ 1048576) (hhi : hi ≤ w.heap.size) :
    Calls Tryd.prog 98 #[.func (.func 99) #[.pointer (some ⟨b, 0, none⟩)] #[]] w fun e w' => ∃ v, e = .returned v ∧ IntsOwn w' w.heap.size v t.keys ∧ Below w.heap.size w w' := by
  have hc := appendSeq_c ht hwt hhi
  have HC := Lib.hid hc
  clear hc ht
  go_enter Tryd.func98, Tryd.ntmps98
  go_wp2_with fail
  refine HC.out.mono ?_
  rintro e w1 ⟨v, rfl, hv, hb⟩
  obtain ⟨va, vc, rfl⟩ := IntsOwn.shown hv
  have H := Lib.hid (And.intro hv hb)
  clear hv hb
  go_wp2_with fail
  go_ret
  exact ⟨_, rfl, H.out⟩
end Go.Proofs.YtdcifdpkfcgmhaaDoor

/- The contract of the program's RangeOf. -/
namespace Go.Proofs.YtdcifdpkfcgmhaaDoor
open Go.RowKit

theorem new_cell' (w : World) (x : Value) (t : TypeId) : (w.alloc (.cells #[x] t)).cell? ⟨w.heap.size, 0, none⟩ = some x := (box1 (new_blk w (.cells #[x] t))).1
theorem IntsIn.alloc' {w : World} {B : Nat} {v : Value} {ks : List Int} (h : IntsIn w B v ks) (hB : B ≤ w.heap.size) (o : Obj) : IntsIn (w.alloc o) B v ks := h.later ((Below.refl B w).alloc hB o) (Nat.le_refl _)

set_option maxRecDepth 100000 in
set_option maxHeartbeats 2000000 in
theorem impl_range {w : World} {B : Nat} {kv cv : Value} {t : Tr} (ht : TreeIn w B kv cv t) (hw : t.weight ≤ 1048576) (low high : Int) (w' : World) (hbw : Below B w w') (hB : B ≤ w'.heap.size) :
    Calls Tryd.prog 54 #[.agg #[kv, cv], .int .i64 low, .int .i64 high] w' fun e w'' => ∃ v, e = .returned v ∧ IntsCut w'' w'.heap.size v (t.rangeB low high) ∧ Below w'.heap.size w' w'' := by
  obtain ⟨a5, n5, m5, a6, n6, m6, rfl, rfl⟩ := ht.slices
  obtain ⟨W1, hW1⟩ : ∃ W1, W1 = w'.alloc (.cells #[.slice a5 n5 m5, .slice a6 n6 m6] 33) := ⟨_, rfl⟩
  have hs1 : W1.heap.size = w'.heap.size + 1 := by rw [hW1]; simp
  have hb1 : Below w'.heap.size w' W1 := by rw [hW1]; exact (Below.refl _ _).alloc (Nat.le_refl _) _
  have kb : W1.heap[w'.heap.size]? = some (.cells #[.slice a5 n5 m5, .slice a6 n6 m6] 33 (0, 0)) := by rw [hW1, new_blk]
  obtain ⟨x1, x2, x3, x4⟩ := box2 kb
  have hv := rangeB_is low high t
  have HB := Lib.hid hbw
  have HT := Lib.hid ht
  have HW1 := Lib.hid hW1
  have H1 := Lib.hid (And.intro hb1 kb)
  have HV := Lib.hid hv
  clear hbw ht hW1 hb1 kb hv
  go_enter Tryd.func54, Tryd.ntmps54
  go_wp2_with fail
  rw [← HW1.out]
  refine (validForSome_c HT.out hw W1 (HB.out.trans (H1.out.1.mono hB)) (by omega)).mono ?_
  rintro e w2 ⟨rfl, hb2⟩
  have hs2 := hb2.size
  have kb2 := (hb2.block w'.heap.size (by omega)).trans H1.out.2
  clear x1 x2 x3 x4
  obtain ⟨x1, x2, x3, x4⟩ := box2 kb2
  have H2 := Lib.hid (H1.out.1.trans (hb2.mono (by omega)))
  clear hb2 kb2
  cases hsb : t.someB with
  | false =>
    have h := HV.out.2 hsb
    have HZ := Lib.hid h
    have HSB := Lib.hid hsb
    clear h hsb
    go_wp2_with fail
    go_ret
    exact ⟨_, rfl, by rw [HZ.out]; exact IntsCut.none, H2.out⟩
  | true =>
    have h := HV.out.1 hsb
    have hwell := Tr.Well.of_some hsb
    have HWL := Lib.hid hwell.2
    have HZ := Lib.hid h
    have HSB := Lib.hid hsb
    clear h hsb hwell
    by_cases hlh : low ≤ high
    · have hlh' : ¬ (low > high) := by omega
      go_wp2_with fail
      refine (plant_c HT.out hw _ (HB.out.trans (H2.out.mono hB)) (by omega)).mono ?_
      rintro e w3 ⟨nb, rfl, hnd, hb3⟩
      have HND := Lib.hid hnd
      have hs3 := hb3.size
      have H3 := Lib.hid (H2.out.trans (hb3.mono (by omega)))
      clear hb3 hnd x1 x2 x3 x4
      go_wp2_with fail
      refine (collect_c HND.out hw (Nat.le_refl _)).mono ?_
      rintro e w4 ⟨v, rfl, hown, hb4⟩
      have hkl := Tr.keys_length_le t
      have hcut := rangeL_cut hlh HWL.out
      have hpl1 := place_le low t.keys
      have hpl2 := place_le (high + 1) t.keys
      have hmono : place low t.keys ≤ place (high + 1) t.keys := by
        generalize t.keys = l
        induction l with
        | nil => simp [place]
        | cons x r ih =>
          simp only [place]
          by_cases h1 : x < low
          · rw [if_pos h1, if_pos (by omega)]; omega
          · rw [if_neg h1]; omega
      obtain ⟨va, vc, rfl⟩ := IntsOwn.shown hown
      have hs4 := hb4.size
      have H4 := Lib.hid (And.intro (H3.out.trans (hb4.mono (by omega))) hown)
      have HKI := Lib.hid (IntsOwn.in hown)
      have HCUT := Lib.hid hcut
      have hkn : t.keys.length ≤ 1048576 := by omega
      have HKN := Lib.hid hkn
      clear hb4 hown hcut
      generalize t.keys = ks at *
      have hn2 : ((w4.alloc (.cells #[.int .i64 low] 3)).alloc (.cells #[.int .i64 high] 3)).cell? ⟨w4.heap.size + 1, 0, none⟩ = some (.int .i64 high) := by
        have h := new_cell' (w4.alloc (.cells #[.int .i64 low] 3)) (.int .i64 high) 3
        rw [World.size_alloc] at h; exact h
      have hp1 := place_less_c (w4.alloc (.cells #[.int .i64 low] 3)) w4.heap.size (HKI.out.alloc' (Nat.le_refl _) _) HWL.out hkn low low (Lib.hid rfl) w4.heap.size (new_cell' w4 (.int .i64 low) 3)
      have hp2 := place_upTo_c ((w4.alloc (.cells #[.int .i64 low] 3)).alloc (.cells #[.int .i64 high] 3)) w4.heap.size ((HKI.out.alloc' (Nat.le_refl _) _).alloc' (by simp) _) HWL.out hkn high (high + 1) (Lib.hid rfl) (w4.heap.size + 1) hn2
      obtain ⟨f, hf⟩ : ∃ f, f = place low ks := ⟨_, rfl⟩
      obtain ⟨p, hp⟩ : ∃ p, p = place (high + 1) ks := ⟨_, rfl⟩
      rw [← hf] at hpl1 hmono hp1
      rw [← hp] at hpl2 hmono hp2
      have HF := Lib.hid (And.intro hf hp)
      have HP1 := Lib.hid hp1
      have HP2 := Lib.hid hp2
      clear hf hp hp1 hp2 hn2
      have hcl : ks.length ≤ vc := by
        obtain ⟨_, _, hv, h1, h2, _, h⟩ := HKI.out
        injection hv with e1 _ e3
        omega
      have hvn : va = none → p - f = 0 := by
        obtain ⟨_, _, hv, h1, h2, h3, h⟩ := HKI.out
        injection hv with e1 _ e3
        subst e1 e3
        intro h9
        have := h3 h9
        omega
      have HVN := Lib.hid hvn
      clear hvn
      go_wp2_with fail
      refine (less_c low _).mono ?_
      rintro e w8 ⟨rfl, rfl⟩
      go_wp2_with fail
      refine HP1.out.mono ?_
      rintro e w8 ⟨rfl, rfl⟩
      go_wp2_with fail
      refine (upTo_c high _).mono ?_
      rintro e w8 ⟨rfl, rfl⟩
      go_wp2_with fail
      refine HP2.out.mono ?_
      rintro e w8 ⟨rfl, rfl⟩
      have hbe : Below w4.heap.size w4 ((w4.alloc (.cells #[.int .i64 low] 3)).alloc (.cells #[.int .i64 high] 3)) := ((Below.refl _ _).alloc (Nat.le_refl _) _).alloc (by simp) _
      have hres : t.rangeB low high = (ks.drop f).take (p - f) := by rw [HZ.out, HCUT.out, ← HF.out.1, ← HF.out.2]
      have HBE := Lib.hid hbe
      have HRES := Lib.hid hres
      clear hbe hres
      by_cases hfp : p = f
      · have e0 : p - f = 0 := by omega
        have h := IntsOwn.cut (f := f) (p := p) H4.out.2 hmono hpl2 va (.inl e0) (fun _ => e0)
        rw [← HRES.out] at h
        rw [e0] at h
        have HC := Lib.hid h
        clear h e0
        go_wp2_with fail
        go_ret
        exact ⟨_, rfl, IntsCut.lower (IntsCut.later HC.out HBE.out (Nat.le_refl _)) (by omega), H4.out.1.trans (HBE.out.mono (by omega))⟩
      · have h := IntsOwn.cut (f := f) (p := p) H4.out.2 hmono hpl2 (va.map (fun x => x.add f)) (.inr rfl) (fun h => HVN.out (by simpa using h))
        rw [← HRES.out] at h
        have HC := Lib.hid h
        clear h
        go_wp2_with fail
        go_ret
        exact ⟨_, rfl, IntsCut.lower (IntsCut.later HC.out HBE.out (Nat.le_refl _)) (by omega), H4.out.1.trans (HBE.out.mono (by omega))⟩
    · have hlh' : low > high := by omega
      have hz := rangeL_none hlh t.keys
      have HZ2 := Lib.hid hz
      clear hz
      go_wp2_with fail
      go_ret
      exact ⟨_, rfl, by rw [HZ.out, HZ2.out]; exact IntsCut.none, H2.out⟩
end Go.Proofs.YtdcifdpkfcgmhaaDoor

/- The model's KeyAt. -/
namespace Go.Proofs.YtdcifdpkfcgmhaaDoor
open Go.RowKit

/-- The key with so many less ones. -/
def keyL (keys : List Int) (r : Int) : Int × Bool := if 0 ≤ r ∧ r < (keys.length : Int) then (keys.getD r.toNat 0, true) else (0, false)
def Tr.keyAtB (r : Int) (t : Tr) : Int × Bool := if t.someB then keyL t.keys r else (0, false)
theorem keyAtB_is (r : Int) (t : Tr) : (t.someB = true → t.keyAtB r = keyL t.keys r) ∧ (t.someB = false → t.keyAtB r = (0, false)) := by
  unfold Tr.keyAtB; constructor <;> intro h <;> simp [h]


-- END

end Go.Proofs.YtdcifdpkfcgmhaaDoor

/- Finding: a key is found where it is among the keys in order; plain data. -/
namespace Go.Proofs.YtdcifdpkfcgmhaaDoor
open Go.RowKit

theorem sorted_get {ks : List Int} (h : ks.Pairwise (· < ·)) {i j : Nat} (hij : i < j) (hj : j < ks.length) : ks.getD i 0 < ks.getD j 0 := by
  have := List.pairwise_iff_getElem.1 h i j (by omega) hj hij
  simpa [List.getD_eq_getElem?_getD, hj, show i < ks.length by omega] using this

/-- The place of a key is its index. -/
theorem place_get {ks : List Int} (h : ks.Pairwise (· < ·)) {i : Nat} (hi : i < ks.length) : place (ks.getD i 0) ks = i :=
  place_eq (by omega) (fun j hj => sorted_get h hj hi) (fun _ => by omega)

theorem place_mem {ks : List Int} (h : ks.Pairwise (· < ·)) {x : Int} (hx : x ∈ ks) : place x ks < ks.length ∧ ks.getD (place x ks) 0 = x := by
  obtain ⟨i, hi, rfl⟩ := List.mem_iff_getElem.1 hx
  have e : ks[i] = ks.getD i 0 := by simp [List.getD_eq_getElem?_getD, hi]
  rw [e, place_get h hi]
  exact ⟨hi, rfl⟩

namespace Tr
theorem path_mem (key : Int) : ∀ (n : Nat) (t : Tr), t.weight ≤ n → Well t → (t.path key).2 = true → key ∈ t.keys := by
  intro n
  induction n with
  | zero =>
    rintro ⟨k, cs⟩ hn hw hp
    simp only [weight] at hn
    have hc : cs.length = 0 := by have := length_le_weights cs; omega
    by_cases hf : place key k < k.length ∧ k.getD (place key k) 0 = key
    · have := hf.1
      omega
    · rw [path_leaf hf hc] at hp
      cases hp
  | succ n ih =>
    rintro ⟨k, cs⟩ hn hw hp
    by_cases hf : place key k < k.length ∧ k.getD (place key k) 0 = key
    · refine (own_sub k cs).subset ?_
      have : k[place key k] = key := by have h := hf.2; simpa [List.getD_eq_getElem?_getD, hf.1] using h
      rw [← this]
      exact List.getElem_mem hf.1
    · by_cases hc : cs.length = 0
      · rw [path_leaf hf hc] at hp
        cases hp
      · have hcl := Well.inner hw hc
        have hpl := place_le key k
        have hi : place key k < cs.length := by omega
        rw [path_inner hf hi] at hp
        have hwt := weight_get_le cs _ hi
        simp only [weight] at hn
        exact (kid_sub _ hi).subset (ih _ (by omega) (Well.kid hw _ hi) hp)

theorem mem_path (key : Int) : ∀ (n : Nat) (t : Tr), t.weight ≤ n → Well t → key ∈ t.keys → (t.path key).2 = true := by
  intro n
  induction n with
  | zero =>
    rintro ⟨k, cs⟩ hn hw hm
    simp only [weight] at hn
    have hc : cs.length = 0 := by have := length_le_weights cs; omega
    rw [keys_leaf hc] at hm
    have hk : k = [] := List.length_eq_zero_iff.1 (by omega)
    rw [hk] at hm
    cases hm
  | succ n ih =>
    rintro ⟨k, cs⟩ hn hw hm
    by_cases hf : place key k < k.length ∧ k.getD (place key k) 0 = key
    · rw [path_found hf]
    · by_cases hc : cs.length = 0
      · rw [keys_leaf hc] at hm
        exact absurd (place_mem hw.keys hm) hf
      · have hcl := Well.inner hw hc
        have hpl := place_le key k
        have hi : place key k < cs.length := by omega
        rw [path_inner hf hi]
        have hwt := weight_get_le cs _ hi
        simp only [weight] at hn
        refine ih _ (by omega) (Well.kid hw _ hi) ?_
        obtain ⟨R, hk, hA, hR⟩ := Well.split hw hc key hi
        have hs := hw.2
        rw [hk] at hm hs
        rcases List.mem_append.1 hm with h | h
        · have := hA key h; omega
        rcases List.mem_append.1 h with h | h
        · exact h
        exfalso
        by_cases hpe : place key k = k.length
        · rw [hR hpe, hpe] at h
          simp at h
        · have hlt : place key k < k.length := by omega
          rw [List.getElem?_eq_getElem hlt] at h hs
          simp only [Option.toList_some, List.cons_append, List.nil_append, List.mem_cons] at h hs
          have hge := place_ge hlt
          have hne : ¬ k.getD (place key k) 0 = key := fun e => hf ⟨hlt, e⟩
          have e : k.getD (place key k) 0 = k[place key k] := by simp [List.getD_eq_getElem?_getD, hlt]
          rw [e] at hge hne
          rcases h with h | h
          · omega
          · have h2 := (List.pairwise_append.1 (List.pairwise_append.1 hs).2.1).2.1
            have := (List.pairwise_cons.1 h2).1 key h
            omega

/-- A key is found if it is one of the keys in order. -/
theorem path_iff (key : Int) (t : Tr) (hw : Well t) : (t.path key).2 = true ↔ key ∈ t.keys :=
  ⟨path_mem key t.weight t (Nat.le_refl _) hw, mem_path key t.weight t (Nat.le_refl _) hw⟩

theorem hasB_iff (key : Int) (t : Tr) (hs : t.someB = true) : (t.pathB key).2 = true ↔ key ∈ t.keys := by
  rw [(someB_path key t).1 hs]
  exact path_iff key t (Well.of_some hs)
end Tr
end Go.Proofs.YtdcifdpkfcgmhaaDoor

/- Ranks tell keys, and keys tell ranks; plain data. -/
namespace Go.Proofs.YtdcifdpkfcgmhaaDoor
open Go.RowKit

namespace Tr
theorem at_fact {t : Tr} {r k : Int} (h : t.keyAtB r = (k, true)) : t.rankB k = r ∧ (t.pathB k).2 = true := by
  have hs : t.someB = true := by
    cases hs : t.someB with
    | true => rfl
    | false => rw [(keyAtB_is r t).2 hs] at h; simp at h
  have hw := (Well.of_some hs).2
  rw [(keyAtB_is r t).1 hs, keyL] at h
  split at h
  · rename_i hr
    simp only [Prod.mk.injEq, and_true] at h
    have hlt : r.toNat < t.keys.length := by omega
    subst h
    refine ⟨?_, (hasB_iff _ t hs).2 ?_⟩
    · rw [(rankB_is _ t).1 hs, place_get hw hlt]
      omega
    · rw [List.getD_eq_getElem?_getD, List.getElem?_eq_getElem hlt]
      exact List.getElem_mem hlt
  · simp at h
theorem has_fact {t : Tr} {key : Int} (hs : t.someB = true) (h : (t.pathB key).2 = true) : t.keyAtB (t.rankB key) = (key, true) := by
  have hw := (Well.of_some hs).2
  obtain ⟨h1, h2⟩ := place_mem hw ((hasB_iff key t hs).1 h)
  rw [(rankB_is key t).1 hs, (keyAtB_is _ t).1 hs, keyL, if_pos ⟨by omega, by omega⟩]
  simp only [Int.toNat_natCast, h2]
theorem rank_some {t : Tr} {key : Int} (h : 0 ≤ t.rankB key) : t.someB = true := by
  cases hs : t.someB with
  | true => rfl
  | false => rw [(rankB_is key t).2 hs] at h; omega
theorem rank_le {t : Tr} {key : Int} : -1 ≤ t.rankB key ∧ t.rankB key ≤ t.weight := by
  cases hs : t.someB with
  | true =>
    rw [(rankB_is key t).1 hs]
    have := place_le key t.keys
    have := keys_length_le t
    omega
  | false => rw [(rankB_is key t).2 hs]; omega
end Tr
end Go.Proofs.YtdcifdpkfcgmhaaDoor

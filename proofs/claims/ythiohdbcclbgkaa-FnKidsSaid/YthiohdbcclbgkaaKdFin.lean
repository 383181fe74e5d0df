/- For every slice of bytes, the law on kids returns true and leaves its arguments as they were; no conditions. -/
import Derived.Test.YthiohdbcclbgkaaProg
import Derived.Test.YthiohdbcclbgkaaBase
import Derived.Test.YthiohdbcclbgkaaPiD
import Derived.WalkKit
import Derived.ProofKit
import Derived.OpenShut
import Derived.ChangeOld
import Derived.Below
import Derived.Test.YthiohdbcclbgkaaApp
import Derived.Test.YthiohdbcclbgkaaTreeL
import Derived.Test.YthiohdbcclbgkaaDrawSome
import Derived.Test.YthiohdbcclbgkaaKeys
import Derived.Test.YthiohdbcclbgkaaSorted
import Derived.Test.YthiohdbcclbgkaaSmallTree
import Derived.Test.YthiohdbcclbgkaaGrD
import Derived.Test.YthiohdbcclbgkaaImValid
import Derived.Test.YthiohdbcclbgkaaAt
import Derived.Test.YthiohdbcclbgkaaTrR
import Derived.Test.YthiohdbcclbgkaaCA
import Derived.Deep.RegionHeld3
import Derived.Test.YthiohdbcclbgkaaRows
import Derived.Test.YthiohdbcclbgkaaFacts

/- Bytes that came in, as a slice in memory. -/
namespace Go.Proofs.Ythiohdbcclbgkaa
open Go.ChangeShapes Go.WideShapes Go.ChangeAt Go.RowKit
variable {H : Type} {enc : TypeId × Value → H} {w : World} {base : Nat} {spare : Nat → Bool} {held : Bool}

theorem Try.cellsU8 : Try.prog.cellsOf 5 = 1 := by kernel_rfl

theorem bytes_of_trod (fuel : Nat) {a0 : Option Addr} {len cap : Nat} {x : DataW H × List MemPlace} (hs : ∀ b, spare b = true) (h : DataW.trod enc Try.prog w base spare held fuel 35 [.slice a0 len cap] = some x) :
    ∃ bs, BytesIn w w.heap.size (.slice a0 len cap) bs := by
  rcases open_ints Try.underlying35 Try.underlying5 Try.cellsU8 h with ⟨hcs, hx⟩ | ⟨a, len', cap', zs, hcs, _, hl, hm, hz, hx, hcell, hwz⟩
  · simp only [List.cons.injEq, Value.slice.injEq, and_true] at hcs
    obtain ⟨rfl, rfl, rfl⟩ := hcs
    exact ⟨[], none, 0, rfl, Nat.le_refl _, by unfold maxLen; omega, (fun x h => by cases h), .inl rfl⟩
  · simp only [List.cons.injEq, Value.slice.injEq, and_true] at hcs
    obtain ⟨rfl, rfl, rfl⟩ := hcs
    rw [hs, if_pos rfl] at hz
    have hb : ∀ z ∈ zs, 0 ≤ z ∧ z ≤ 255 := fun z hz' => by
      have h5 := hwz z hz'
      have e1 : IntKind.u8.min = 0 := rfl
      have e2 : IntKind.u8.max = 255 := rfl
      simpa [Lit.wf, e1, e2] using h5
    have hlen : ((zs.take len).map Int.toNat).length = len := by simp; omega
    refine ⟨(zs.take len).map Int.toNat, some a, cap, by rw [hlen], by rw [hlen]; exact hl, hm, fun x hx => ?_, ?_⟩
    · obtain ⟨z, hz1, rfl⟩ := List.mem_map.1 hx
      have := hb z (List.mem_of_mem_take hz1)
      omega
    · by_cases h0 : len = 0
      · left; subst h0; simp
      · obtain ⟨b, off, spot⟩ := a
        have hspot : spot = none := by simpa [Addr.add] using World.cell?_spot (hcell 0 (by omega))
        subst hspot
        refine .inr ⟨b, off, rfl, ?_, fun i hi => ?_⟩
        · have h1 := hcell 0 (by omega)
          rw [add_plain] at h1
          exact World.block_lt_of_cell? w _ h1
        · rw [hlen] at hi
          have h1 := hcell i (by omega)
          rw [add_plain] at h1
          rw [h1]
          have hzi := hb zs[i] (List.getElem_mem (by omega))
          have e1 : zs.getD i 0 = zs[i] := by simp [List.getD_eq_getElem?_getD, show i < zs.length by omega]
          have e2 : ((zs.take len).map Int.toNat).getD i 0 = zs[i].toNat := by simp [List.getD_eq_getElem?_getD, hi, show i < zs.length by omega]
          rw [e1, e2]
          congr 2
          omega
end Go.Proofs.Ythiohdbcclbgkaa

/- The model draws a tree and a width. -/
namespace Go.Proofs.Ythiohdbcclbgkaa
open Go.RowKit

/-- What drawing a tree and a width leaves. -/
def TreeDrawn (w : World) (e : Ending) (w' : World) : Prop :=
  ∃ (kv cv : Value) (t : Tr) (wide : Int), e = .returned (.tuple #[.agg #[kv, cv], .int .i64 wide]) ∧ -1 ≤ wide ∧ wide ≤ 7 ∧ TreeQ w' (fun k => w.heap.size ≤ k ∧ k < w'.heap.size) kv cv t ∧ t.weight ≤ 400000 ∧ Below w.heap.size w w'

set_option maxHeartbeats 1000000 in
set_option maxRecDepth 100000 in
theorem DrawFullNodes_c {w : World} {B : Nat} {v : Value} {bs : List Nat} (h : BytesIn w B v bs) (w' : World) (hbw : Below B w w') (hB : B ≤ w'.heap.size) :
    Calls Try.prog 25 #[v] w' (TreeDrawn w') := by
  obtain ⟨W1, hW1⟩ : ∃ W1, W1 = w'.alloc (.cells #[.slice none 0 0, .slice none 0 0] 25) := ⟨_, rfl⟩
  obtain ⟨R, hRe⟩ : ∃ R, R = w'.heap.size + 1 := ⟨_, rfl⟩
  have hs1 : W1.heap.size = R := by rw [hW1, hRe]; simp
  have hR1 : w'.heap.size < R := by omega
  have hR2 : R ≤ w'.heap.size + 1 := by omega
  have hb1 : Below w'.heap.size w' W1 := by rw [hW1]; exact (Below.refl _ _).alloc (Nat.le_refl _) _
  have hk1 : W1.heap[w'.heap.size]? = some (.cells #[.slice none 0 0, .slice none 0 0] 25 (0, 0)) := by rw [hW1, new_blk]
  have hop := open_c h W1 (hbw.trans (hb1.mono hB)) (by omega)
  rw [hs1] at hop
  have HO := Lib.hid hop
  clear hop hRe
  obtain ⟨va, vcap, rfl, -⟩ := h
  have HW1 := Lib.hid hW1
  have H1 := Lib.hid (And.intro hb1 hk1)
  clear hW1 hb1 hk1 hbw
  go_enter Try.func25, Try.ntmps25
  go_wp2_with fail
  rw [← HW1.out]
  refine HO.out.mono ?_
  rintro e w2 ⟨rfl, ⟨bs', hr2⟩, hb2⟩
  have hs2 := hb2.size
  have hrl2 := hr2.lt
  obtain ⟨p0, hp0, hr2⟩ : ∃ p0 : Nat, p0 ≤ 100 ∧ Rd w2 R R bs' p0 := ⟨0, by omega, hr2⟩
  have HS := Lib.hid (some_c w2 _ _ bs' p0 hr2 (by omega))
  have H2 := Lib.hid hb2
  clear hr2 hb2
  go_wp2_with fail
  refine HS.out.mono ?_
  rintro e w3 ⟨k3, c3, t, wide, q, rfl, hwd1, hwd2, ht3, hw3, hr3, hq3, ho3⟩
  obtain ⟨b1, b2, b3, b4, b5, b6, rfl, rfl⟩ := ht3.slices
  have hs3 := ho3.size
  have hk3 := (ho3.block w'.heap.size (by omega) (by omega)).trans ((H2.out.block w'.heap.size (by omega)).trans H1.out.2)
  have hb3 : Below w'.heap.size w' w3 := H1.out.1.trans ((H2.out.mono (by omega)).trans (ho3.below (B := w'.heap.size) (by omega) (by omega)))
  obtain ⟨y1, y2, y3, y4⟩ := box2 hk3
  have H3 := Lib.hid (And.intro ht3 (And.intro hk3 hb3))
  clear ht3 hr3 ho3 hk3 hb3
  go_wp2_with fail
  obtain ⟨wf, hwf⟩ : ∃ wf, wf = (w3.setCell ⟨w'.heap.size, 0, none⟩ (.slice b1 b2 b3)).setCell ⟨w'.heap.size, 1, none⟩ (.slice b4 b5 b6) := ⟨_, rfl⟩
  have hfb : wf.heap[w'.heap.size]? = some (.cells #[.slice b1 b2 b3, .slice b4 b5 b6] 25 (0, 0)) := by
    rw [hwf]; exact set_blk (o := 1) _ (set_blk (o := 0) _ H3.out.2.1)
  obtain ⟨d1, d2, d3, d4⟩ := box2 hfb
  have hsf : wf.heap.size = w3.heap.size := by rw [hwf]; simp
  rw [← hwf]
  refine bodyPost_ret (v := .tuple #[.agg #[.slice b1 b2 b3, .slice b4 b5 b6], .int .i64 wide]) (by simp [results, Try.results25, go_sem, d1, d2]) rfl ⟨_, _, t, wide, rfl, hwd1, hwd2, ?_, hw3, ?_⟩
  · refine H3.out.1.same (fun k hk => ?_) (fun k hk => ⟨by omega, by omega⟩)
    rw [hwf, set_other _ _ _ _ _ (by omega), set_other _ _ _ _ _ (by omega)]
  · rw [hwf]; exact (H3.out.2.2.setCell (by show w'.heap.size ≤ w'.heap.size; omega) _).setCell (by show w'.heap.size ≤ w'.heap.size; omega) _

set_option maxHeartbeats 1000000 in
set_option maxRecDepth 100000 in
theorem DrawTreeValid_c {w : World} {B : Nat} {v : Value} {bs : List Nat} (h : BytesIn w B v bs) (w' : World) (hbw : Below B w w') (hB : B ≤ w'.heap.size) :
    Calls Try.prog 31 #[v] w' (TreeDrawn w') := by
  obtain ⟨W1, hW1⟩ : ∃ W1, W1 = w'.alloc (.cells #[.slice none 0 0, .slice none 0 0] 25) := ⟨_, rfl⟩
  obtain ⟨R, hRe⟩ : ∃ R, R = w'.heap.size + 1 := ⟨_, rfl⟩
  have hs1 : W1.heap.size = R := by rw [hW1, hRe]; simp
  have hR1 : w'.heap.size < R := by omega
  have hR2 : R ≤ w'.heap.size + 1 := by omega
  have hb1 : Below w'.heap.size w' W1 := by rw [hW1]; exact (Below.refl _ _).alloc (Nat.le_refl _) _
  have hk1 : W1.heap[w'.heap.size]? = some (.cells #[.slice none 0 0, .slice none 0 0] 25 (0, 0)) := by rw [hW1, new_blk]
  have hop := open_c h W1 (hbw.trans (hb1.mono hB)) (by omega)
  rw [hs1] at hop
  have HO := Lib.hid hop
  clear hop hRe
  obtain ⟨va, vcap, rfl, -⟩ := h
  have HW1 := Lib.hid hW1
  have H1 := Lib.hid (And.intro hb1 hk1)
  clear hW1 hb1 hk1 hbw
  go_enter Try.func31, Try.ntmps31
  go_wp2_with fail
  rw [← HW1.out]
  refine HO.out.mono ?_
  rintro e w2 ⟨rfl, ⟨bs', hr2⟩, hb2⟩
  have hs2 := hb2.size
  have hrl2 := hr2.lt
  obtain ⟨p0, hp0, hr2⟩ : ∃ p0 : Nat, p0 ≤ 100 ∧ Rd w2 R R bs' p0 := ⟨0, by omega, hr2⟩
  have HS := Lib.hid (some_c w2 _ _ bs' p0 hr2 (by omega))
  have H2 := Lib.hid hb2
  clear hr2 hb2
  go_wp2_with fail
  refine HS.out.mono ?_
  rintro e w3 ⟨k3, c3, t, wide, q, rfl, hwd1, hwd2, ht3, hw3, hr3, hq3, ho3⟩
  obtain ⟨b1, b2, b3, b4, b5, b6, rfl, rfl⟩ := ht3.slices
  have hs3 := ho3.size
  have hk3 := (ho3.block w'.heap.size (by omega) (by omega)).trans ((H2.out.block w'.heap.size (by omega)).trans H1.out.2)
  have hb3 : Below w'.heap.size w' w3 := H1.out.1.trans ((H2.out.mono (by omega)).trans (ho3.below (B := w'.heap.size) (by omega) (by omega)))
  obtain ⟨y1, y2, y3, y4⟩ := box2 hk3
  have H3 := Lib.hid (And.intro ht3 (And.intro hk3 hb3))
  clear ht3 hr3 ho3 hk3 hb3
  go_wp2_with fail
  obtain ⟨wf, hwf⟩ : ∃ wf, wf = (w3.setCell ⟨w'.heap.size, 0, none⟩ (.slice b1 b2 b3)).setCell ⟨w'.heap.size, 1, none⟩ (.slice b4 b5 b6) := ⟨_, rfl⟩
  have hfb : wf.heap[w'.heap.size]? = some (.cells #[.slice b1 b2 b3, .slice b4 b5 b6] 25 (0, 0)) := by
    rw [hwf]; exact set_blk (o := 1) _ (set_blk (o := 0) _ H3.out.2.1)
  obtain ⟨d1, d2, d3, d4⟩ := box2 hfb
  have hsf : wf.heap.size = w3.heap.size := by rw [hwf]; simp
  rw [← hwf]
  refine bodyPost_ret (v := .tuple #[.agg #[.slice b1 b2 b3, .slice b4 b5 b6], .int .i64 wide]) (by simp [results, Try.results31, go_sem, d1, d2]) rfl ⟨_, _, t, wide, rfl, hwd1, hwd2, ?_, hw3, ?_⟩
  · refine H3.out.1.same (fun k hk => ?_) (fun k hk => ⟨by omega, by omega⟩)
    rw [hwf, set_other _ _ _ _ _ (by omega), set_other _ _ _ _ _ (by omega)]
  · rw [hwf]; exact (H3.out.2.2.setCell (by show w'.heap.size ≤ w'.heap.size; omega) _).setCell (by show w'.heap.size ≤ w'.heap.size; omega) _

end Go.Proofs.Ythiohdbcclbgkaa

/- The kids of a valid tree, and a wider width: plain data. -/
namespace Go.Proofs.Ythiohdbcclbgkaa
open Go.RowKit
namespace Tr

theorem weave_kid : ∀ (c : List Tr) (k : List Int) (i : Nat) (h : i < c.length), List.Sublist c[i].keys (weave c k)
  | [], _, i, h => by simp at h
  | t :: r, k, 0, _ => by
    rw [weave_cons]
    exact List.sublist_append_left _ _
  | t :: r, k, i + 1, h => by
    rw [weave_cons]
    have h' : i < r.length := by simpa using h
    cases k with
    | nil => exact (weave_kid r [] i h').trans (List.sublist_append_right _ _)
    | cons x k => exact ((weave_kid r k i h').trans (List.sublist_cons_self x _)).trans (List.sublist_append_right _ _)

theorem nodes_least {wide least least' d : Int} {t : Tr} (hl : least' ≤ least) (h : nodesB wide least d t = true) : nodesB wide least' d t = true := by
  obtain ⟨k, c⟩ := t
  obtain ⟨⟨h1, h2⟩, h3⟩ := nodes_mem h
  exact nodes_of ⟨⟨by omega, h2⟩, h3⟩

theorem nodes_wider {wide : Int} (hw : (wide + 1) / 2 = wide / 2) : ∀ (n : Nat) (t : Tr), t.weight ≤ n → ∀ (least d : Int), nodesB wide least d t = true → nodesB (wide + 1) least d t = true := by
  intro n
  induction n with
  | zero =>
    rintro ⟨k, c⟩ ht least d h
    obtain ⟨⟨h1, h2⟩, h3⟩ := nodes_mem h
    simp only [weight] at ht
    have hl := length_le_weights c
    refine nodes_of ⟨⟨h1, by omega⟩, ?_⟩
    rcases h3 with h3 | ⟨h4, _⟩
    · exact .inl h3
    · omega
  | succ n ih =>
    rintro ⟨k, c⟩ ht least d h
    obtain ⟨⟨h1, h2⟩, h3⟩ := nodes_mem h
    simp only [weight] at ht
    refine nodes_of ⟨⟨h1, by omega⟩, ?_⟩
    rcases h3 with h3 | ⟨h4, h5, h6, h7, h8⟩
    · exact .inl h3
    · refine .inr ⟨h4, h5, h6, h7, fun x hx => ?_⟩
      obtain ⟨i, hi, rfl⟩ := List.getElem_of_mem hx
      have := weight_get_le c i hi
      rw [hw]
      exact ih _ (by omega) _ _ (h8 _ hx)

/-- What the law on kids asks. -/
theorem kid_facts {wide : Int} {t : Tr} (h : validB wide t = true) (i : Nat) (hi : i < t.cs.length) : validB wide t.cs[i] = true ∧ (t.cs[i].depth : Int) = (t.depth : Int) - 1 ∧ wide / 2 ≤ (t.cs[i].ks.length : Int) := by
  have hks := valid_keys h
  have hw := valid_wide h
  have h' := h
  simp only [validB, Bool.and_eq_true] at h'
  obtain ⟨k, c⟩ := t
  have hi' : i < c.length := hi
  obtain ⟨⟨h1, h2⟩, h3⟩ := nodes_mem h'.2.1
  rcases h3 with ⟨h3, _⟩ | ⟨h4, h5, h6, h7, h8⟩
  · omega
  have hx := h8 c[i] (List.getElem_mem hi')
  have hd := nodes_depth wide c[i].weight _ _ c[i] (Nat.le_refl _) hx
  have hsub : List.Sublist c[i].keys (Tr.mk k c).keys := by rw [keys_weave]; exact weave_kid c k i hi'
  have hst : sortedB c[i].keys = true := sorted_of ((pairwise_of_sorted hks).sublist hsub) (fun x hx => sorted_mem hks x (hsub.subset hx))
  have h0 := nodes_least (least' := 0) (by omega) hx
  rw [← hd] at h0
  refine ⟨?_, by show (c[i].depth : Int) = _; omega, ?_⟩
  · show validB wide c[i] = true
    simp only [validB, Bool.and_eq_true]
    exact ⟨h'.1, h0, hst⟩
  · have hx' := hx
    show wide / 2 ≤ (c[i].ks.length : Int)
    cases hc : c[i] with
    | mk k2 c2 =>
      rw [hc] at hx'
      exact (nodes_mem hx').1.1

theorem wider_valid {wide : Int} {t : Tr} (h : validB wide t = true) (h6 : wide ≠ 6) (he : wide % 2 ≠ 1) : validB (wide + 1) t = true := by
  have hw := valid_wide h
  have h' := h
  simp only [validB, Bool.and_eq_true] at h' ⊢
  refine ⟨by simp [inB]; omega, ?_, h'.2.2⟩
  exact nodes_wider (by omega) t.weight t (Nat.le_refl _) _ _ h'.2.1
end Tr
end Go.Proofs.Ythiohdbcclbgkaa

/- The law on kids: the walk over the contracts. -/
namespace Go.Proofs.Ythiohdbcclbgkaa
open Go.RowKit

set_option maxHeartbeats 4000000 in
set_option maxRecDepth 100000 in
theorem fnKids_c {w : World} {v : Value} {bs : List Nat} (h : BytesIn w w.heap.size v bs) :
    Calls Try.prog 7 #[v] w fun e w' => e = .returned (.bool true) ∧ Below w.heap.size w w' := by
  have H := Lib.hid h
  obtain ⟨a1, c1, rfl, -⟩ := h
  by_cases hc1 : bs.length ≤ 1048576
  case neg =>
    have hc1' : ((bs.length : Int) > 1048576) := by omega
    go_enter Try.func7, Try.ntmps7
    go_wp2_with fail
    go_ret
    exact ⟨rfl, Below.refl _ _⟩
  have hc1' : ¬ ((bs.length : Int) > 1048576) := by omega
  have HD := Lib.hid (DrawTreeValid_c H.out w (Below.refl _ _) (Nat.le_refl _))
  go_enter Try.func7, Try.ntmps7
  go_wp2_with fail
  refine HD.out.mono ?_
  rintro e w2 ⟨k2, d2, t, wide, rfl, hwd1, hwd2, ht2, hw2, hb2⟩
  obtain ⟨ks, cs⟩ := t
  obtain ⟨b4, b6, kvs, cvs, rfl, hik, hcl, hcc, hkat, hkk⟩ := ht2.parts
  obtain ⟨b1, b3, rfl, -⟩ := id hik
  unfold maxLen at hcc
  have hs2 := hb2.size
  obtain ⟨W3, hW3⟩ : ∃ W3, W3 = w2.alloc (.cells #[.slice b1 ks.length b3, .slice b4 cs.length b6] 25) := ⟨_, rfl⟩
  have hs3 : w2.heap.size < W3.heap.size := by rw [hW3]; simp
  have hb3 : Below w2.heap.size w2 W3 := by rw [hW3]; exact (Below.refl _ _).alloc (Nat.le_refl _) _
  have hx3 : W3.heap[w2.heap.size]? = some (.cells #[.slice b1 ks.length b3, .slice b4 cs.length b6] 25 (0, 0)) := by rw [hW3, new_blk]
  have hta3 : TreeA W3 (.slice b1 ks.length b3) (.slice b4 cs.length b6) (.mk ks cs) := (ht2.a (fun k hk => hk.2)).later hb3 (Nat.le_refl _)
  have hwt : (Tr.mk ks cs).weight ≤ 1048576 := by omega
  have hct := Tr.count_le (.mk ks cs)
  have hdl := Tr.depth_le (.mk ks cs)
  have hws := hw2
  simp only [Tr.weight] at hws
  have hlw := Tr.length_le_weights cs
  have V1 := fun (wx : World) (hx : Below W3.heap.size W3 wx) => impl_valid _ _ _ _ _ wide hta3.tree hwt (by omega) (by omega) wx hx hx.size
  have V2 := fun (wx : World) (hx : Below W3.heap.size W3 wx) => specTreeValid_c hta3.tree hwt wide wx hx hx.size
  have V3 := fun (wx : World) (hx : Below W3.heap.size W3 wx) (nn : Int) (h1 : -9223372036854775808 ≤ nn) (h2 : nn ≤ 9223372036854775807) => impl_valid _ _ _ _ _ nn hta3.tree hwt h1 h2 wx hx hx.size
  have hkf := fun (h : Tr.validB wide (.mk ks cs) = true) (i : Nat) (hi : i < cs.length) => Tr.kid_facts h i hi
  have hwf := fun (h : Tr.validB wide (.mk ks cs) = true) => Tr.valid_wide h
  have hwv := fun (h : Tr.validB wide (.mk ks cs) = true) => Tr.wider_valid h
  obtain ⟨qb, hqb⟩ : ∃ qb, qb = Tr.validB wide (.mk ks cs) := ⟨_, rfl⟩
  rw [← hqb] at V1 V2 hkf hwf hwv
  have HV1 := Lib.hid V1
  have HV2 := Lib.hid V2
  have HV3 := Lib.hid V3
  have HKF := Lib.hid hkf
  have HWF := Lib.hid hwf
  have HWV := Lib.hid hwv
  have HC3 := Lib.hid (fun (wx : World) (hx : Below W3.heap.size W3 wx) => impl_depth_a (hta3.later hx (Nat.le_refl _)) hwt)
  have hx3x := hx3
  rw [hW3] at hx3x
  obtain ⟨x1, x2, x3, x4⟩ := box2 hx3x
  have HW3 := Lib.hid hW3
  have HBX := Lib.hid (And.intro (hb2.trans (hb3.mono (by omega))) (And.intro hx3 hb3))
  have BOX : Hid (∀ wx : World, Below W3.heap.size W3 wx → wx.heap[w2.heap.size]? = some (.cells #[.slice b1 ks.length b3, .slice b4 cs.length b6] 25 (0, 0))) := Lib.hid (fun wx hx => (hx.block _ (by omega)).trans HBX.out.2.1)
  have HKK := Lib.hid (And.intro hkat hkk)
  have hneb : (qb != qb) = false := by simp
  have HQB := Lib.hid hqb
  clear ht2 hb2 hW3 hb3 hx3 hx3x hta3 V1 V2 V3 hkf hwf hwv hqb hik hkat hkk
  go_wp2_with fail
  rw [← HW3.out]
  clear x1 x2 x3 x4
  obtain ⟨x1, x2, x3, x4⟩ := box2 HBX.out.2.1
  go_region_held3 (fun x => x.cell? ⟨w2.heap.size, 0, none⟩ = some (.slice b1 ks.length b3) ∧ x.cell? ⟨w2.heap.size, 1, none⟩ = some (.slice b4 cs.length b6))
    (first | exact ⟨x1, x2⟩ | exact ⟨z1, z2⟩ | exact ⟨q1, q2⟩ | go_keep)
    (first
      | (go_at_call 32; refine (HV1.out _ (Below.refl _ _).drew).mono ?_; rintro e w4 ⟨rfl, hb4⟩; have hB4 : Below W3.heap.size W3 w4 := ((Below.refl _ _).drew).trans hb4; obtain ⟨z1, z2, z3, z4⟩ := box2 (BOX.out w4 hB4); have HB4 := Lib.hid hB4; clear hb4 hB4)
      | (go_at_call 33; refine (HV2.out _ HB4.out).mono ?_; rintro e w5 ⟨rfl, hb5'⟩; have hB5 : Below W3.heap.size W3 w5 := HB4.out.trans (hb5'.mono (by have := HB4.out.size; omega)); obtain ⟨q1, q2, q3, q4⟩ := box2 (BOX.out w5 hB5); have HB5 := Lib.hid hB5; clear hb5' hB5))
  clear x1 x2 x3 x4 z1 z2 z3 z4
  go_wp2_with fail
  refine (HV1.out w5 HB5.out).mono ?_
  rintro e w6 ⟨rfl, hb6⟩
  have hB6 : Below W3.heap.size W3 w6 := HB5.out.trans (hb6.mono (by have := HB5.out.size; omega))
  have HB6 := Lib.hid hB6
  clear hb6 hB6 q1 q2 q3 q4
  obtain ⟨x1, x2, x3, x4⟩ := box2 (BOX.out w6 HB6.out)
  cases qb with
  | false =>
    go_wp2_with fail
    go_ret
    exact ⟨rfl, HBX.out.1.trans (HB6.out.mono (by omega))⟩
  | true =>
  obtain ⟨hw2', hw6'⟩ := HWF.out rfl
  clear hneb
  obtain ⟨L, hL⟩ : ∃ L : Nat, (L : Int) = wide / 2 := ⟨(wide / 2).toNat, by omega⟩
  have hd1 : wide / 2 = (L : Int) := hL.symm
  have hd2 : Int.tdiv wide 2 = (L : Int) := by rw [Int.tdiv_eq_ediv_of_nonneg (by omega)]; exact hd1
  clear hL
  have HKF' : Hid (∀ (i : Nat) (hi : i < cs.length), Tr.validB wide cs[i] = true ∧ (cs[i].depth : Int) = ((Tr.mk ks cs).depth : Int) - 1 ∧ (L : Int) ≤ (cs[i].ks.length : Int)) := Lib.hid (fun i hi => by rw [← hd1]; exact HKF.out rfl i hi)
  obtain ⟨D, hD⟩ : ∃ D, D = (Tr.mk ks cs).depth := ⟨_, rfl⟩
  have hC3 := HC3.out
  rw [← hD] at hC3 hdl
  have HC3' := Lib.hid hC3
  have HD' := Lib.hid hD
  clear hC3 hD HC3
  go_wp2_with fail
  go_loopw [29] (fun i wr => ∃ j : Nat, j ≤ cs.length ∧ i = .int .i64 j ∧ Below W3.heap.size W3 wr) (fun i _ => cs.length - (intOf i).toNat)
  case atStart => exact ⟨0, Nat.zero_le _, rfl, HB6.out⟩
  case round =>
    obtain ⟨j, hj, rfl, hbel⟩ := hrel
    have HB := Lib.hid hbel
    have hz := hbel.size
    by_cases hlt : j < cs.length
    · rcases HKK.out.1 with h | ⟨b, off, rfl, hb, hat⟩
      · omega
      obtain ⟨ha, hc⟩ := hat j hlt
      obtain ⟨e1, e2, e3, f1, f2, f3, g1, g2⟩ := (HKK.out.2 j hlt).slices
      have hbb : b < w2.heap.size := hb.1.2
      have h23 : Below w2.heap.size w2 wr := HBX.out.2.2.trans (hbel.mono (by omega))
      rw [← below_cell h23 hbb] at ha hc
      have hka : TreeA w2 (kvs j) (cvs j) cs[j] := (HKK.out.2 j hlt).a (fun k hk => hk.2)
      have he2 : e2 = cs[j].ks.length := by
        have h5 := HKK.out.2 j hlt
        rw [g1] at h5
        cases hcj : cs[j] with
        | mk k9 c9 =>
          rw [hcj] at h5
          obtain ⟨_, _, _, _, _, hik9, _⟩ := h5.parts
          obtain ⟨_, _, hv9, _⟩ := hik9
          simp only [Value.slice.injEq] at hv9
          exact hv9.2.1
      have hwj := Tr.weight_get_le cs j hlt
      obtain ⟨hkv, hkd, hkl⟩ := HKF'.out j hlt
      have hkdl := Tr.depth_le cs[j]
      have hkct := Tr.count_le cs[j]
      rw [← he2] at hkl
      rw [← HD'.out] at hkd
      obtain ⟨wx, hwx⟩ : ∃ wx, wx = wr.alloc (.cells #[kvs j, cvs j] 25) := ⟨_, rfl⟩
      have hbw : Below wr.heap.size wr wx := by rw [hwx]; exact (Below.refl _ _).alloc (Nat.le_refl _) _
      have hxw : wx.heap[wr.heap.size]? = some (.cells #[kvs j, cvs j] 25 (0, 0)) := by rw [hwx, new_blk]
      have hsw : wx.heap.size = wr.heap.size + 1 := by rw [hwx]; simp
      have hkx : TreeA wx (kvs j) (cvs j) cs[j] := hka.later (h23.trans (hbw.mono (by omega))) (Nat.le_refl _)
      have hbx3 : Below W3.heap.size W3 wx := hbel.trans (hbw.mono hz)
      have V4 := fun (wy : World) (hy : Below wx.heap.size wx wy) => impl_valid _ _ _ _ _ wide hkx.tree (by omega) (by omega) (by omega) wy hy hy.size
      rw [hkv] at V4
      have D4 := fun (wy : World) (hy : Below wx.heap.size wx wy) => impl_depth_a (hkx.later hy (Nat.le_refl _)) (by omega)
      obtain ⟨Dk, hDk⟩ : ∃ Dk, Dk = cs[j].depth := ⟨_, rfl⟩
      rw [← hDk] at D4 hkd hkdl
      rw [g1, g2] at V4 D4 hxw hwx
      rw [g1] at ha
      rw [g2] at hc
      have HV4 := Lib.hid V4
      have HD4 := Lib.hid D4
      have HWX := Lib.hid hwx
      have BOX2 : Hid (∀ wy : World, Below wx.heap.size wx wy → wy.heap[wr.heap.size]? = some (.cells #[.slice e1 e2 e3, .slice f1 f2 f3] 25 (0, 0)) ∧ wy.heap[w2.heap.size]? = some (.cells #[.slice b1 ks.length b3, .slice (some ⟨b, off, none⟩) cs.length b6] 25 (0, 0)) ∧ Below W3.heap.size W3 wy) :=
        Lib.hid (fun wy hy => by
          have h9 : Below W3.heap.size W3 wy := hbx3.trans (hy.mono (by omega))
          exact ⟨(hy.block _ (by omega)).trans hxw, BOX.out wy h9, h9⟩)
      have hjl : (j : Int) < (cs.length : Int) := by omega
      have hkn : ¬ (e2 : Int) < (L : Int) := by omega
      have hwr1 : IntKind.i64.wrap ((D : Int) - 1) = (Dk : Int) := by rw [IntKind.wrap_i64]; omega
      have hne1 : ((Dk : Int) != (Dk : Int)) = false := by simp
      have hwr2 : IntKind.i64.wrap (L : Int) = (L : Int) := by rw [IntKind.wrap_i64]; omega
      have hD1 : 1 ≤ D := by omega
      clear hat hka hkx h23 hbel hbw hxw hwx hbx3 V4 D4 g1 g2 hkv hDk he2 hb hkct hkd
      go_upto_region 11 with (fail)
      rw [← HWX.out]
      obtain ⟨y1, y2, -⟩ := box2 (BOX2.out wx (Below.refl _ _)).1
      obtain ⟨y3, y4, -⟩ := box2 (BOX2.out wx (Below.refl _ _)).2.1
      go_region_held3 (fun x => x.cell? ⟨wr.heap.size, 0, none⟩ = some (.slice e1 e2 e3) ∧ x.cell? ⟨wr.heap.size, 1, none⟩ = some (.slice f1 f2 f3) ∧ x.cell? ⟨w2.heap.size, 0, none⟩ = some (.slice b1 ks.length b3) ∧ x.cell? ⟨w2.heap.size, 1, none⟩ = some (.slice (some ⟨b, off, none⟩) cs.length b6))
        (first | exact ⟨y1, y2, y3, y4⟩ | exact ⟨z1, z2, z3, z4⟩ | exact ⟨q1, q2, q3, q4⟩ | exact ⟨u1', u2', u3', u4'⟩ | go_keep)
        (first
          | (go_at_call 32; refine (HV4.out _ (Below.refl _ _).drew).mono ?_; rintro e w7 ⟨rfl, hb7⟩; have hB7 : Below wx.heap.size wx w7 := ((Below.refl _ _).drew).trans hb7; obtain ⟨z1, z2, -⟩ := box2 (BOX2.out w7 hB7).1; obtain ⟨z3, z4, -⟩ := box2 (BOX2.out w7 hB7).2.1; have HB7 := Lib.hid hB7; clear hb7 hB7)
          | (go_at_call 30; refine (HC3'.out _ (BOX2.out _ HB8.out).2.2).mono ?_; rintro e w9 ⟨rfl, hb9⟩; have hB9 : Below wx.heap.size wx w9 := HB8.out.trans (hb9.mono (by have := HB8.out.size; omega)); obtain ⟨u1', u2', -⟩ := box2 (BOX2.out w9 hB9).1; obtain ⟨u3', u4', -⟩ := box2 (BOX2.out w9 hB9).2.1; have HB9 := Lib.hid hB9; clear hb9 hB9)
          | (go_at_call 30; refine (HD4.out _ HB7.out).mono ?_; rintro e w8 ⟨rfl, hb8⟩; have hB8 : Below wx.heap.size wx w8 := HB7.out.trans (hb8.mono (by have := HB7.out.size; omega)); obtain ⟨q1, q2, -⟩ := box2 (BOX2.out w8 hB8).1; obtain ⟨q3, q4, -⟩ := box2 (BOX2.out w8 hB8).2.1; have HB8 := Lib.hid hB8; clear hb8 hB8))
      go_wp2_with fail
      go_roundw
      case rel => exact ⟨j + 1, by omega, by go_num, (BOX2.out _ HB9.out).2.2⟩
      case measure => simp [intOf]; omega
    · have hjl : ¬ (j : Int) < (cs.length : Int) := by omega
      have hws : wide = 2 ∨ wide = 3 ∨ wide = 4 ∨ wide = 5 ∨ wide = 6 := by omega
      clear hbel hd1 hd2
      obtain ⟨x1, x2, x3, x4⟩ := box2 (BOX.out wr HB.out)
      have hwv := HWV.out (by first | rfl | trivial)
      rcases hws with rfl | rfl | rfl | rfl | rfl
      all_goals (
        go_wp2_with fail
        first
          | (refine (HV3.out wr HB.out _ (by omega) (by omega)).mono ?_
             rintro e w7 ⟨he, hb7⟩
             obtain rfl : e = .returned (.bool true) := he.trans (ret_bool (hwv (by decide) (by decide)))
             have HB7 := Lib.hid (HB.out.trans (hb7.mono (by omega)))
             clear hb7 he
             go_wp2_with fail
             go_ret
             exact ⟨rfl, HBX.out.1.trans (HB7.out.mono (by omega))⟩)
          | (go_ret
             exact ⟨rfl, HBX.out.1.trans (HB.out.mono (by omega))⟩))
end Go.Proofs.Ythiohdbcclbgkaa

/- The statement on kids, from the walk of its law. -/
namespace Go.Proofs.Ythiohdbcclbgkaa.fnKidsRowP
open Go.ChangeShapes Go.WideShapes Go.ChangeAt Go.RowKit
set_option linter.unusedVariables false

theorem own : ownKnob Try.prog.godebug = none := by kernel_rfl
theorem laidOut : laidOutB Try.prog = true := by kernel_rfl

set_option maxRecDepth 100000 in
set_option maxHeartbeats 1000000 in
theorem lifted (os : Os) (started : os.Started) (H : Type) (enc : TypeId × Value → H) :
    ReturnsInHanded {} Try.checked os 7 .any (Rows.fnKidsSpec.pre6 enc Try.prog Try.f7 Rows.fnKidsRow.domain false) (Rows.fnKidsSpec.post enc Try.prog Try.f7 false true false false) := by
  refine returnsInHanded_of_change (C := Try.checked) own started (by kernel_rfl) Try.func7
    (ChangeSpec.witness6 (enc := enc) (C := Try.checked) false ⟨#[], #[.slice none 0 0], []⟩ 8 (by kernel_rfl) (by kernel_rfl) (by kernel_rfl) (by kernel_rfl)) ?_
  intro W base args ds gs before hval0 hW hcnd _
  have hval : ∀ (j : Nat) t v, Try.f7.params[j]? = some t → args[j]? = some v → Value.okWide Try.prog W .any base t v := hval0
  have hW' := hW
  obtain ⟨p, q, hA0, hV, rfl, hfz, hnd⟩ := hW
  have hA : DataW.TrodAll enc Try.prog W 0 (fun _ => true) true Try.f7.params.toList args.toList ds p := hA0
  rw [Try.params7] at hA hval
  obtain ⟨v0, vs0, d0, ds0, p0, q0, hargs, rfl, rfl, h0, r0⟩ := trodAll_cons hA
  obtain ⟨rfl, rfl, rfl⟩ := trodAll_nil r0
  obtain rfl : args = #[v0] := by cases args; simp_all
  obtain ⟨rfl, rfl⟩ := trodVars_none hV
  obtain ⟨a0, len0, cap0, rfl⟩ := okWide_slice Try.underlying35 (hval 0 35 v0 rfl rfl)
  have k0 := h0
  have lt0 : ∀ x ∈ p0, x.block < W.heap.size := by obtain ⟨m, hm⟩ := k0; exact DataW.trod_lt m _ _ _ hm
  obtain ⟨bs0, hb0⟩ : ∃ bs, BytesIn W W.heap.size (.slice a0 len0 cap0) bs := by
    obtain ⟨fuel, hf⟩ := h0
    exact bytes_of_trod fuel (fun _ => rfl) hf
  clear hA0 hval0
  refine (fnKids_c hb0).mono fun e W' ⟨he, bel⟩ => ?_
  subst he
  exact ⟨_, rfl, _, _, _, [], _, [], hW', trodAll_mk1 (shut_bool Try.underlying4 _), (trodAll_cons_mk (Below.trod laidOut (by kernel_rfl) (of_decide_eq_true (by kernel_rfl)) k0 bel lt0) trodAll_mk0), rfl, bel.frame _, fun h => by cases h⟩

theorem closed : joinedFacts Try.prog 7 Try.f7 Rows.fnKidsSpec Rows.fnKidsRow = true := by
  unfold joinedFacts
  exact band (band (band (band (band (band (band (by kernel_rfl) fact_enter) fact_lifts) fact_make) (by kernel_rfl)) (by kernel_rfl)) (by kernel_rfl)) (by kernel_rfl)

theorem over : Rows.fnKidsRow.holds Try.pinned (OpenSpec.ofChange Rows.fnKidsSpec) :=
  OpenClaim.holds_of_wide 7 Try.f7 rfl rfl rfl rfl rfl rfl rfl ⟨rfl, rfl, rfl, rfl, rfl⟩ rfl rfl rfl rfl rfl (by kernel_rfl) Try.func7 closed
    (of_decide_eq_true (by kernel_rfl)) (by unfold Func.isWrapper; first | (rw [if_pos (by decide +kernel)]; kernel_rfl) | (rw [if_neg (by decide +kernel)]; exact ⟨rfl, rfl⟩))
    (fun os started H enc _ => lifted os started H enc)
end Go.Proofs.Ythiohdbcclbgkaa.fnKidsRowP

/- For every slice of bytes, the law on kids returns true and leaves its arguments as they were; no conditions. -/
namespace Go.Proofs.Ythiohdbcclbgkaa

theorem kids_said : Rows.FnKidsSaid := fnKidsRowP.over
end Go.Proofs.Ythiohdbcclbgkaa

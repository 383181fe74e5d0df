/- For every slice of bytes, the law on widths returns true and leaves its arguments as they were; no conditions. -/
import Derived.Test.YthiohdbcclbgkaaProg
import Derived.Test.YthiohdbcclbgkaaBase
import Derived.Test.YthiohdbcclbgkaaPiD
import Derived.WalkKit
import Derived.ProofKit
import Derived.OpenShut
import Derived.ChangeOld
import Derived.Below
import Derived.Test.YthiohdbcclbgkaaApp
import Derived.Test.YthiohdbcclbgkaaTreeL
import Derived.Test.YthiohdbcclbgkaaDrawSome
import Derived.Test.YthiohdbcclbgkaaKeys
import Derived.Test.YthiohdbcclbgkaaSorted
import Derived.Test.YthiohdbcclbgkaaSmD
import Derived.Test.YthiohdbcclbgkaaImValid
import Derived.Test.YthiohdbcclbgkaaAt
import Derived.Test.YthiohdbcclbgkaaTrR
import Derived.Test.YthiohdbcclbgkaaCA
import Derived.Deep.RegionHeld3
import Derived.Test.YthiohdbcclbgkaaRows
import Derived.Test.YthiohdbcclbgkaaFacts

/- Bytes that came in, as a slice in memory. -/
namespace Go.Proofs.Ythiohdbcclbgkaa
open Go.ChangeShapes Go.WideShapes Go.ChangeAt Go.RowKit
variable {H : Type} {enc : TypeId × Value → H} {w : World} {base : Nat} {spare : Nat → Bool} {held : Bool}

theorem Try.cellsU8 : Try.prog.cellsOf 5 = 1 := by kernel_rfl

theorem bytes_of_trod (fuel : Nat) {a0 : Option Addr} {len cap : Nat} {x : DataW H × List MemPlace} (hs : ∀ b, spare b = true) (h : DataW.trod enc Try.prog w base spare held fuel 35 [.slice a0 len cap] = some x) :
    ∃ bs, BytesIn w w.heap.size (.slice a0 len cap) bs := by
  rcases open_ints Try.underlying35 Try.underlying5 Try.cellsU8 h with ⟨hcs, hx⟩ | ⟨a, len', cap', zs, hcs, _, hl, hm, hz, hx, hcell, hwz⟩
  · simp only [List.cons.injEq, Value.slice.injEq, and_true] at hcs
    obtain ⟨rfl, rfl, rfl⟩ := hcs
    exact ⟨[], none, 0, rfl, Nat.le_refl _, by unfold maxLen; omega, (fun x h => by cases h), .inl rfl⟩
  · simp only [List.cons.injEq, Value.slice.injEq, and_true] at hcs
    obtain ⟨rfl, rfl, rfl⟩ := hcs
    rw [hs, if_pos rfl] at hz
    have hb : ∀ z ∈ zs, 0 ≤ z ∧ z ≤ 255 := fun z hz' => by
      have h5 := hwz z hz'
      have e1 : IntKind.u8.min = 0 := rfl
      have e2 : IntKind.u8.max = 255 := rfl
      simpa [Lit.wf, e1, e2] using h5
    have hlen : ((zs.take len).map Int.toNat).length = len := by simp; omega
    refine ⟨(zs.take len).map Int.toNat, some a, cap, by rw [hlen], by rw [hlen]; exact hl, hm, fun x hx => ?_, ?_⟩
    · obtain ⟨z, hz1, rfl⟩ := List.mem_map.1 hx
      have := hb z (List.mem_of_mem_take hz1)
      omega
    · by_cases h0 : len = 0
      · left; subst h0; simp
      · obtain ⟨b, off, spot⟩ := a
        have hspot : spot = none := by simpa [Addr.add] using World.cell?_spot (hcell 0 (by omega))
        subst hspot
        refine .inr ⟨b, off, rfl, ?_, fun i hi => ?_⟩
        · have h1 := hcell 0 (by omega)
          rw [add_plain] at h1
          exact World.block_lt_of_cell? w _ h1
        · rw [hlen] at hi
          have h1 := hcell i (by omega)
          rw [add_plain] at h1
          rw [h1]
          have hzi := hb zs[i] (List.getElem_mem (by omega))
          have e1 : zs.getD i 0 = zs[i] := by simp [List.getD_eq_getElem?_getD, show i < zs.length by omega]
          have e2 : ((zs.take len).map Int.toNat).getD i 0 = zs[i].toNat := by simp [List.getD_eq_getElem?_getD, hi, show i < zs.length by omega]
          rw [e1, e2]
          congr 2
          omega
end Go.Proofs.Ythiohdbcclbgkaa

/- The model draws a tree and a width. -/
namespace Go.Proofs.Ythiohdbcclbgkaa
open Go.RowKit

/-- What drawing a tree and a width leaves. -/
def TreeDrawn (w : World) (e : Ending) (w' : World) : Prop :=
  ∃ (kv cv : Value) (t : Tr) (wide : Int), e = .returned (.tuple #[.agg #[kv, cv], .int .i64 wide]) ∧ -1 ≤ wide ∧ wide ≤ 7 ∧ TreeQ w' (fun k => w.heap.size ≤ k ∧ k < w'.heap.size) kv cv t ∧ t.weight ≤ 400000 ∧ Below w.heap.size w w'

set_option maxHeartbeats 1000000 in
set_option maxRecDepth 100000 in
theorem DrawFullNodes_c {w : World} {B : Nat} {v : Value} {bs : List Nat} (h : BytesIn w B v bs) (w' : World) (hbw : Below B w w') (hB : B ≤ w'.heap.size) :
    Calls Try.prog 25 #[v] w' (TreeDrawn w') := by
  obtain ⟨W1, hW1⟩ : ∃ W1, W1 = w'.alloc (.cells #[.slice none 0 0, .slice none 0 0] 25) := ⟨_, rfl⟩
  obtain ⟨R, hRe⟩ : ∃ R, R = w'.heap.size + 1 := ⟨_, rfl⟩
  have hs1 : W1.heap.size = R := by rw [hW1, hRe]; simp
  have hR1 : w'.heap.size < R := by omega
  have hR2 : R ≤ w'.heap.size + 1 := by omega
  have hb1 : Below w'.heap.size w' W1 := by rw [hW1]; exact (Below.refl _ _).alloc (Nat.le_refl _) _
  have hk1 : W1.heap[w'.heap.size]? = some (.cells #[.slice none 0 0, .slice none 0 0] 25 (0, 0)) := by rw [hW1, new_blk]
  have hop := open_c h W1 (hbw.trans (hb1.mono hB)) (by omega)
  rw [hs1] at hop
  have HO := Lib.hid hop
  clear hop hRe
  obtain ⟨va, vcap, rfl, -⟩ := h
  have HW1 := Lib.hid hW1
  have H1 := Lib.hid (And.intro hb1 hk1)
  clear hW1 hb1 hk1 hbw
  go_enter Try.func25, Try.ntmps25
  go_wp2_with fail
  rw [← HW1.out]
  refine HO.out.mono ?_
  rintro e w2 ⟨rfl, ⟨bs', hr2⟩, hb2⟩
  have hs2 := hb2.size
  have hrl2 := hr2.lt
  obtain ⟨p0, hp0, hr2⟩ : ∃ p0 : Nat, p0 ≤ 100 ∧ Rd w2 R R bs' p0 := ⟨0, by omega, hr2⟩
  have HS := Lib.hid (some_c w2 _ _ bs' p0 hr2 (by omega))
  have H2 := Lib.hid hb2
  clear hr2 hb2
  go_wp2_with fail
  refine HS.out.mono ?_
  rintro e w3 ⟨k3, c3, t, wide, q, rfl, hwd1, hwd2, ht3, hw3, hr3, hq3, ho3⟩
  obtain ⟨b1, b2, b3, b4, b5, b6, rfl, rfl⟩ := ht3.slices
  have hs3 := ho3.size
  have hk3 := (ho3.block w'.heap.size (by omega) (by omega)).trans ((H2.out.block w'.heap.size (by omega)).trans H1.out.2)
  have hb3 : Below w'.heap.size w' w3 := H1.out.1.trans ((H2.out.mono (by omega)).trans (ho3.below (B := w'.heap.size) (by omega) (by omega)))
  obtain ⟨y1, y2, y3, y4⟩ := box2 hk3
  have H3 := Lib.hid (And.intro ht3 (And.intro hk3 hb3))
  clear ht3 hr3 ho3 hk3 hb3
  go_wp2_with fail
  obtain ⟨wf, hwf⟩ : ∃ wf, wf = (w3.setCell ⟨w'.heap.size, 0, none⟩ (.slice b1 b2 b3)).setCell ⟨w'.heap.size, 1, none⟩ (.slice b4 b5 b6) := ⟨_, rfl⟩
  have hfb : wf.heap[w'.heap.size]? = some (.cells #[.slice b1 b2 b3, .slice b4 b5 b6] 25 (0, 0)) := by
    rw [hwf]; exact set_blk (o := 1) _ (set_blk (o := 0) _ H3.out.2.1)
  obtain ⟨d1, d2, d3, d4⟩ := box2 hfb
  have hsf : wf.heap.size = w3.heap.size := by rw [hwf]; simp
  rw [← hwf]
  refine bodyPost_ret (v := .tuple #[.agg #[.slice b1 b2 b3, .slice b4 b5 b6], .int .i64 wide]) (by simp [results, Try.results25, go_sem, d1, d2]) rfl ⟨_, _, t, wide, rfl, hwd1, hwd2, ?_, hw3, ?_⟩
  · refine H3.out.1.same (fun k hk => ?_) (fun k hk => ⟨by omega, by omega⟩)
    rw [hwf, set_other _ _ _ _ _ (by omega), set_other _ _ _ _ _ (by omega)]
  · rw [hwf]; exact (H3.out.2.2.setCell (by show w'.heap.size ≤ w'.heap.size; omega) _).setCell (by show w'.heap.size ≤ w'.heap.size; omega) _

set_option maxHeartbeats 1000000 in
set_option maxRecDepth 100000 in
theorem DrawTreeValid_c {w : World} {B : Nat} {v : Value} {bs : List Nat} (h : BytesIn w B v bs) (w' : World) (hbw : Below B w w') (hB : B ≤ w'.heap.size) :
    Calls Try.prog 31 #[v] w' (TreeDrawn w') := by
  obtain ⟨W1, hW1⟩ : ∃ W1, W1 = w'.alloc (.cells #[.slice none 0 0, .slice none 0 0] 25) := ⟨_, rfl⟩
  obtain ⟨R, hRe⟩ : ∃ R, R = w'.heap.size + 1 := ⟨_, rfl⟩
  have hs1 : W1.heap.size = R := by rw [hW1, hRe]; simp
  have hR1 : w'.heap.size < R := by omega
  have hR2 : R ≤ w'.heap.size + 1 := by omega
  have hb1 : Below w'.heap.size w' W1 := by rw [hW1]; exact (Below.refl _ _).alloc (Nat.le_refl _) _
  have hk1 : W1.heap[w'.heap.size]? = some (.cells #[.slice none 0 0, .slice none 0 0] 25 (0, 0)) := by rw [hW1, new_blk]
  have hop := open_c h W1 (hbw.trans (hb1.mono hB)) (by omega)
  rw [hs1] at hop
  have HO := Lib.hid hop
  clear hop hRe
  obtain ⟨va, vcap, rfl, -⟩ := h
  have HW1 := Lib.hid hW1
  have H1 := Lib.hid (And.intro hb1 hk1)
  clear hW1 hb1 hk1 hbw
  go_enter Try.func31, Try.ntmps31
  go_wp2_with fail
  rw [← HW1.out]
  refine HO.out.mono ?_
  rintro e w2 ⟨rfl, ⟨bs', hr2⟩, hb2⟩
  have hs2 := hb2.size
  have hrl2 := hr2.lt
  obtain ⟨p0, hp0, hr2⟩ : ∃ p0 : Nat, p0 ≤ 100 ∧ Rd w2 R R bs' p0 := ⟨0, by omega, hr2⟩
  have HS := Lib.hid (some_c w2 _ _ bs' p0 hr2 (by omega))
  have H2 := Lib.hid hb2
  clear hr2 hb2
  go_wp2_with fail
  refine HS.out.mono ?_
  rintro e w3 ⟨k3, c3, t, wide, q, rfl, hwd1, hwd2, ht3, hw3, hr3, hq3, ho3⟩
  obtain ⟨b1, b2, b3, b4, b5, b6, rfl, rfl⟩ := ht3.slices
  have hs3 := ho3.size
  have hk3 := (ho3.block w'.heap.size (by omega) (by omega)).trans ((H2.out.block w'.heap.size (by omega)).trans H1.out.2)
  have hb3 : Below w'.heap.size w' w3 := H1.out.1.trans ((H2.out.mono (by omega)).trans (ho3.below (B := w'.heap.size) (by omega) (by omega)))
  obtain ⟨y1, y2, y3, y4⟩ := box2 hk3
  have H3 := Lib.hid (And.intro ht3 (And.intro hk3 hb3))
  clear ht3 hr3 ho3 hk3 hb3
  go_wp2_with fail
  obtain ⟨wf, hwf⟩ : ∃ wf, wf = (w3.setCell ⟨w'.heap.size, 0, none⟩ (.slice b1 b2 b3)).setCell ⟨w'.heap.size, 1, none⟩ (.slice b4 b5 b6) := ⟨_, rfl⟩
  have hfb : wf.heap[w'.heap.size]? = some (.cells #[.slice b1 b2 b3, .slice b4 b5 b6] 25 (0, 0)) := by
    rw [hwf]; exact set_blk (o := 1) _ (set_blk (o := 0) _ H3.out.2.1)
  obtain ⟨d1, d2, d3, d4⟩ := box2 hfb
  have hsf : wf.heap.size = w3.heap.size := by rw [hwf]; simp
  rw [← hwf]
  refine bodyPost_ret (v := .tuple #[.agg #[.slice b1 b2 b3, .slice b4 b5 b6], .int .i64 wide]) (by simp [results, Try.results31, go_sem, d1, d2]) rfl ⟨_, _, t, wide, rfl, hwd1, hwd2, ?_, hw3, ?_⟩
  · refine H3.out.1.same (fun k hk => ?_) (fun k hk => ⟨by omega, by omega⟩)
    rw [hwf, set_other _ _ _ _ _ (by omega), set_other _ _ _ _ _ (by omega)]
  · rw [hwf]; exact (H3.out.2.2.setCell (by show w'.heap.size ≤ w'.heap.size; omega) _).setCell (by show w'.heap.size ≤ w'.heap.size; omega) _

end Go.Proofs.Ythiohdbcclbgkaa

/- How many keys and nodes a valid tree has: plain data. -/
namespace Go.Proofs.Ythiohdbcclbgkaa
open Go.RowKit
namespace Tr

theorem lens_cons (t : Tr) (r : List Tr) : lens (keyss (t :: r)) = t.keys.length + lens (keyss r) := by
  simp [keyss, lens]

mutual
theorem keys_bounds (W H : Nat) (hH : (W : Int) / 2 = H) : ∀ (t : Tr) (least d : Int), nodesB W least d t = true → t.keys.length ≤ W * t.count ∧ (least + ((H * (t.count - 1) : Nat) : Int) ≤ (t.keys.length : Int))
  | .mk k c, least, d, h => by
    obtain ⟨⟨h1, h2⟩, h3⟩ := nodes_mem h
    have hk := kids_bounds W H hH c (d - 1) (by
      rcases h3 with ⟨h3, _⟩ | ⟨_, _, _, _, h4⟩
      · intro x hx; rw [List.length_eq_zero_iff.1 h3] at hx; cases hx
      · rw [hH] at h4; exact h4)
    rw [keys_length]
    simp only [count]
    rw [Nat.mul_add, Nat.mul_one, show 1 + counts c - 1 = counts c by omega]
    omega
theorem kids_bounds (W H : Nat) (hH : (W : Int) / 2 = H) : ∀ (c : List Tr) (d : Int), (∀ x ∈ c, nodesB W H d x = true) → lens (keyss c) ≤ W * counts c ∧ H * counts c ≤ lens (keyss c)
  | [], d, _ => by simp [keyss, lens, counts]
  | t :: r, d, h => by
    have h1 := keys_bounds W H hH t H d (h t (by simp))
    have h2 := kids_bounds W H hH r d (fun x hx => h x (by simp [hx]))
    have h3 : 1 ≤ t.count := by cases t; simp only [count]; omega
    obtain ⟨m, hm⟩ : ∃ m, t.count = m + 1 := ⟨t.count - 1, by omega⟩
    rw [lens_cons]
    simp only [counts]
    rw [hm] at h1 ⊢
    rw [show m + 1 - 1 = m by omega] at h1
    rw [Nat.mul_add W, Nat.mul_add H, Nat.mul_add H m 1, Nat.mul_one]
    omega
end

mutual
theorem full_none (W : Int) (n : Int) (hn : W < n) : ∀ (t : Tr) (least d : Int), nodesB W least d t = true → t.full n = 0
  | .mk k c, least, d, h => by
    obtain ⟨⟨h1, h2⟩, h3⟩ := nodes_mem h
    have hk : fulls n c = 0 := by
      rcases h3 with ⟨h3, _⟩ | ⟨_, _, _, _, h4⟩
      · rw [List.length_eq_zero_iff.1 h3]; rfl
      · exact fulls_none W n hn c _ _ h4
    simp only [full, hk]
    rw [if_neg (by omega)]
theorem fulls_none (W : Int) (n : Int) (hn : W < n) : ∀ (c : List Tr) (least d : Int), (∀ x ∈ c, nodesB W least d x = true) → fulls n c = 0
  | [], _, _, _ => rfl
  | t :: r, least, d, h => by
    simp only [fulls, full_none W n hn t least d (h t (by simp)), fulls_none W n hn r least d (fun x hx => h x (by simp [hx]))]
end

/-- What the law on widths asks. -/
theorem width_facts {W : Nat} {t : Tr} (h : validB W t = true) :
    t.keys.length ≤ W * t.count ∧ (W / 2) * (t.count - 1) ≤ t.keys.length ∧ (t.keys.length = 0 → t.count = 1) ∧ (t.cs.length = 0 → t.depth = 1) ∧ t.full ((W : Int) + 1) = 0 ∧ 1 ≤ t.count := by
  have h' := h
  simp only [validB, Bool.and_eq_true] at h'
  have hn := h'.2.1
  have hb := keys_bounds W (W / 2) (by omega) t _ _ hn
  have hf := full_none W ((W : Int) + 1) (by omega) t _ _ hn
  obtain ⟨k, c⟩ := t
  obtain ⟨⟨h1, h2⟩, h3⟩ := nodes_mem hn
  refine ⟨hb.1, by omega, fun h0 => ?_, fun h0 => ?_, hf, by simp only [count]; omega⟩
  · rw [keys_length] at h0
    rcases h3 with ⟨h3, _⟩ | ⟨_, _, _, h5, _⟩
    · rw [List.length_eq_zero_iff.1 h3]; rfl
    · omega
  · have : c = [] := List.length_eq_zero_iff.1 h0
    subst this
    rfl
end Tr
end Go.Proofs.Ythiohdbcclbgkaa

/- The law on widths: the walk over the contracts. -/
namespace Go.Proofs.Ythiohdbcclbgkaa
open Go.RowKit

set_option maxHeartbeats 4000000 in
set_option maxRecDepth 100000 in
theorem fnWidths_c {w : World} {v : Value} {bs : List Nat} (h : BytesIn w w.heap.size v bs) :
    Calls Try.prog 6 #[v] w fun e w' => e = .returned (.bool true) ∧ Below w.heap.size w w' := by
  have H := Lib.hid h
  obtain ⟨a1, c1, rfl, -⟩ := h
  by_cases hc1 : bs.length ≤ 1048576
  case neg =>
    have hc1' : ((bs.length : Int) > 1048576) := by omega
    go_enter Try.func6, Try.ntmps6
    go_wp2_with fail
    go_ret
    exact ⟨rfl, Below.refl _ _⟩
  have hc1' : ¬ ((bs.length : Int) > 1048576) := by omega
  have HD := Lib.hid (DrawTreeValid_c H.out w (Below.refl _ _) (Nat.le_refl _))
  go_enter Try.func6, Try.ntmps6
  go_wp2_with fail
  refine HD.out.mono ?_
  rintro e w2 ⟨k2, d2, t, wide, rfl, hwd1, hwd2, ht2, hw2, hb2⟩
  obtain ⟨b1, b2, b3, b4, b5, b6, rfl, rfl⟩ := ht2.slices
  have hs2 := hb2.size
  obtain ⟨W3, hW3⟩ : ∃ W3, W3 = w2.alloc (.cells #[.slice b1 b2 b3, .slice b4 b5 b6] 25) := ⟨_, rfl⟩
  have hs3 : w2.heap.size < W3.heap.size := by rw [hW3]; simp
  have hb3 : Below w2.heap.size w2 W3 := by rw [hW3]; exact (Below.refl _ _).alloc (Nat.le_refl _) _
  have hx3 : W3.heap[w2.heap.size]? = some (.cells #[.slice b1 b2 b3, .slice b4 b5 b6] 25 (0, 0)) := by rw [hW3, new_blk]
  have hta3 : TreeA W3 (.slice b1 b2 b3) (.slice b4 b5 b6) t := (ht2.a (fun k hk => hk.2)).later hb3 (Nat.le_refl _)
  have hwt : t.weight ≤ 1048576 := by omega
  have hct := Tr.count_le t
  have hkl := Tr.keys_length_le t
  have hb5 : b5 = t.cs.length := by
    obtain ⟨ks, cs⟩ := t
    obtain ⟨_, _, _, _, he, _⟩ := ht2.parts
    simp only [Value.slice.injEq] at he
    exact he.2.1
  have HLEN := Lib.hid hb5
  clear hb5
  have V1 := fun (wx : World) (hx : Below W3.heap.size W3 wx) => impl_valid _ _ _ _ _ wide hta3.tree hwt (by omega) (by omega) wx hx hx.size
  have V2 := fun (wx : World) (hx : Below W3.heap.size W3 wx) => specTreeValid_c hta3.tree hwt wide wx hx hx.size
  have hfacts : Tr.validB wide t = true → (wide = 2 ∨ wide = 3 ∨ wide = 4 ∨ wide = 5 ∨ wide = 6) ∧ (t.keys.length : Int) ≤ wide * t.count ∧ wide / 2 * ((t.count : Int) - 1) ≤ (t.keys.length : Int) ∧ (t.keys.length = 0 → t.count = 1) ∧ (t.cs.length = 0 → t.depth = 1) ∧ t.full (wide + 1) = 0 ∧ 1 ≤ t.count := fun hv => by
    have hw := Tr.valid_wide hv
    obtain ⟨W, rfl⟩ := Int.eq_ofNat_of_zero_le (show 0 ≤ wide by omega)
    obtain ⟨f1, f2, f3, f4, f5, f6⟩ := Tr.width_facts hv
    refine ⟨by omega, by exact_mod_cast f1, ?_, f3, f4, f5, f6⟩
    obtain ⟨m, hm⟩ : ∃ m, t.count = m + 1 := ⟨t.count - 1, by omega⟩
    rw [hm, show m + 1 - 1 = m by omega] at f2
    rw [hm, show (W : Int) / 2 = ((W / 2 : Nat) : Int) by omega, show (((m + 1 : Nat) : Int) - 1) = (m : Int) by omega]
    exact_mod_cast f2
  obtain ⟨qb, hqb⟩ : ∃ qb, qb = Tr.validB wide t := ⟨_, rfl⟩
  rw [← hqb] at V1 V2 hfacts
  have HV1 := Lib.hid V1
  have HV2 := Lib.hid V2
  have HFA := Lib.hid hfacts
  have HC1 := Lib.hid (fun (wx : World) (hx : Below W3.heap.size W3 wx) => impl_count_a (hta3.later hx (Nat.le_refl _)) hwt)
  have HC2 := Lib.hid (fun (wx : World) (hx : Below W3.heap.size W3 wx) (nn : Int) (h1 : -9223372036854775808 ≤ nn) (h2 : nn ≤ 9223372036854775807) => impl_full_a (hta3.later hx (Nat.le_refl _)) hwt nn h1 h2)
  have HC3 := Lib.hid (fun (wx : World) (hx : Below W3.heap.size W3 wx) => impl_depth_a (hta3.later hx (Nat.le_refl _)) hwt)
  have HC4 := Lib.hid (fun (wx : World) (hx : Below W3.heap.size W3 wx) => impl_keys_a (hta3.later hx (Nat.le_refl _)) hwt)
  have hx3x := hx3
  rw [hW3] at hx3x
  obtain ⟨x1, x2, x3, x4⟩ := box2 hx3x
  have HW3 := Lib.hid hW3
  have HBX := Lib.hid (And.intro (hb2.trans (hb3.mono (by omega))) hx3)
  have BOX : Hid (∀ wx : World, Below W3.heap.size W3 wx → wx.heap[w2.heap.size]? = some (.cells #[.slice b1 b2 b3, .slice b4 b5 b6] 25 (0, 0))) := Lib.hid (fun wx hx => (hx.block _ (by omega)).trans HBX.out.2)
  have hneb : (qb != qb) = false := by simp
  have HQB := Lib.hid hqb
  clear ht2 hb2 hW3 hb3 hx3 hx3x hta3 V1 V2 hfacts hqb
  go_wp2_with fail
  rw [← HW3.out]
  clear x1 x2 x3 x4
  obtain ⟨x1, x2, x3, x4⟩ := box2 HBX.out.2
  go_region_held3 (fun x => x.cell? ⟨w2.heap.size, 0, none⟩ = some (.slice b1 b2 b3) ∧ x.cell? ⟨w2.heap.size, 1, none⟩ = some (.slice b4 b5 b6))
    (first | exact ⟨x1, x2⟩ | exact ⟨z1, z2⟩ | exact ⟨q1, q2⟩ | go_keep)
    (first
      | (go_at_call 32; refine (HV1.out _ (Below.refl _ _).drew).mono ?_; rintro e w4 ⟨rfl, hb4⟩; have hB4 : Below W3.heap.size W3 w4 := ((Below.refl _ _).drew).trans hb4; obtain ⟨z1, z2, z3, z4⟩ := box2 (BOX.out w4 hB4); have HB4 := Lib.hid hB4; clear hb4 hB4)
      | (go_at_call 33; refine (HV2.out _ HB4.out).mono ?_; rintro e w5 ⟨rfl, hb5'⟩; have hB5 : Below W3.heap.size W3 w5 := HB4.out.trans (hb5'.mono (by have := HB4.out.size; omega)); obtain ⟨q1, q2, q3, q4⟩ := box2 (BOX.out w5 hB5); have HB5 := Lib.hid hB5; clear hb5' hB5))
  clear x1 x2 x3 x4 z1 z2 z3 z4
  go_wp2_with fail
  refine (HV1.out w5 HB5.out).mono ?_
  rintro e w6 ⟨rfl, hb6⟩
  have hB6 : Below W3.heap.size W3 w6 := HB5.out.trans (hb6.mono (by have := HB5.out.size; omega))
  have HB6 := Lib.hid hB6
  clear hb6 hB6 q1 q2 q3 q4
  obtain ⟨x1, x2, x3, x4⟩ := box2 (BOX.out w6 HB6.out)
  cases qb with
  | false =>
    go_wp2_with fail
    go_ret
    exact ⟨rfl, HBX.out.1.trans (HB6.out.mono (by omega))⟩
  | true =>
  obtain ⟨hws, hf1, hf2, hf3, hf4, hf5, hf6⟩ := HFA.out rfl
  clear hneb
  obtain ⟨N, hN⟩ : ∃ N, N = t.count := ⟨_, rfl⟩
  obtain ⟨K, hK⟩ : ∃ K, K = t.keys.length := ⟨_, rfl⟩
  obtain ⟨D, hD⟩ : ∃ D, D = t.depth := ⟨_, rfl⟩
  obtain ⟨C, hC⟩ : ∃ C, C = t.cs.length := ⟨_, rfl⟩
  have hb5 := HLEN.out
  have hC1 := HC1.out
  have hC3 := HC3.out
  rw [← hN] at hf1 hf2 hf3 hf6 hct hC1
  rw [← hK] at hf1 hf2 hf3 hkl
  rw [← hD] at hf4 hC3
  rw [← hC] at hf4 hb5
  have HF5 := Lib.hid hf5
  have HC1' := Lib.hid hC1
  have HC3' := Lib.hid hC3
  have HKK := Lib.hid hK
  subst hb5
  clear hf5 hC1 hC3 hN hK hD hC HC1 HC3 HV1 HV2
  go_upto_region 8 with (fail)
  go_region_held3 (fun x => x.cell? ⟨w2.heap.size, 0, none⟩ = some (.slice b1 b2 b3) ∧ x.cell? ⟨w2.heap.size, 1, none⟩ = some (.slice b4 b5 b6))
    (first | exact ⟨x1, x2⟩ | exact ⟨z1, z2⟩ | exact ⟨q1, q2⟩ | go_keep)
    (first
      | (go_at_call 26; refine (HC1'.out _ HB6.out.drew).mono ?_; rintro e w7 ⟨rfl, hb7⟩; have hB7 : Below W3.heap.size W3 w7 := HB6.out.drew.trans (hb7.mono (by have := HB6.out.size; simp; omega)); obtain ⟨z1, z2, z3, z4⟩ := box2 (BOX.out w7 hB7); have HB7 := Lib.hid hB7; clear hb7 hB7)
      | (go_at_call 34; refine (HC4.out _ HB7.out).mono ?_; rintro e w8 ⟨v8, rfl, ho8, hb8⟩; obtain ⟨va, vc, rfl⟩ := IntsOwn.shown ho8; rw [← HKK.out]; have hB8 : Below W3.heap.size W3 w8 := HB7.out.trans (hb8.mono (by have := HB7.out.size; omega)); obtain ⟨q1, q2, q3, q4⟩ := box2 (BOX.out w8 hB8); have HB8 := Lib.hid hB8; clear ho8 hb8 hB8))
  clear x1 x2 x3 x4 z1 z2 z3 z4
  rcases hws with rfl | rfl | rfl | rfl | rfl
  all_goals (
    have hf1' := hf1
    have hf2' := hf2
    by_cases hk0 : K = 0
    case' pos =>
      subst hk0
      have hn1 := hf3 rfl
      subst hn1
    all_goals (
      by_cases hc0 : b5 = 0
      case pos =>
        subst hc0
        have hd1 := hf4 rfl
        subst hd1
        go_wp2_with fail
        refine (HC3'.out w8 HB8.out).mono ?_
        rintro e w9 ⟨rfl, hb9⟩
        have HB9 := Lib.hid (HB8.out.trans (hb9.mono (by have := HB8.out.size; omega)))
        clear hb9 q1 q2 q3 q4
        obtain ⟨q1, q2, q3, q4⟩ := box2 (BOX.out w9 HB9.out)
        go_wp2_with fail
        refine (HC2.out w9 HB9.out _ (by omega) (by omega)).mono ?_
        rintro e w10 ⟨he, hb10⟩
        obtain rfl : e = .returned (.int .i64 0) := he.trans (ret_int (congrArg (fun n : Nat => (n : Int)) HF5.out))
        have HB10 := Lib.hid (HB9.out.trans (hb10.mono (by have := HB9.out.size; omega)))
        clear hb10 he
        go_wp2_with fail
        go_ret
        exact ⟨rfl, HBX.out.1.trans (HB10.out.mono (by omega))⟩
      case neg =>
        go_wp2_with fail
        refine (HC2.out w8 HB8.out _ (by omega) (by omega)).mono ?_
        rintro e w10 ⟨he, hb10⟩
        obtain rfl : e = .returned (.int .i64 0) := he.trans (ret_int (congrArg (fun n : Nat => (n : Int)) HF5.out))
        have HB10 := Lib.hid (HB8.out.trans (hb10.mono (by have := HB8.out.size; omega)))
        clear hb10 he
        go_wp2_with fail
        go_ret
        exact ⟨rfl, HBX.out.1.trans (HB10.out.mono (by omega))⟩))
end Go.Proofs.Ythiohdbcclbgkaa

/- The statement on widths, from the walk of its law. -/
namespace Go.Proofs.Ythiohdbcclbgkaa.fnWidthsRowP
open Go.ChangeShapes Go.WideShapes Go.ChangeAt Go.RowKit
set_option linter.unusedVariables false

theorem own : ownKnob Try.prog.godebug = none := by kernel_rfl
theorem laidOut : laidOutB Try.prog = true := by kernel_rfl

set_option maxRecDepth 100000 in
set_option maxHeartbeats 1000000 in
theorem lifted (os : Os) (started : os.Started) (H : Type) (enc : TypeId × Value → H) :
    ReturnsInHanded {} Try.checked os 6 .any (Rows.fnWidthsSpec.pre6 enc Try.prog Try.f6 Rows.fnWidthsRow.domain false) (Rows.fnWidthsSpec.post enc Try.prog Try.f6 false true false false) := by
  refine returnsInHanded_of_change (C := Try.checked) own started (by kernel_rfl) Try.func6
    (ChangeSpec.witness6 (enc := enc) (C := Try.checked) false ⟨#[], #[.slice none 0 0], []⟩ 8 (by kernel_rfl) (by kernel_rfl) (by kernel_rfl) (by kernel_rfl)) ?_
  intro W base args ds gs before hval0 hW hcnd _
  have hval : ∀ (j : Nat) t v, Try.f6.params[j]? = some t → args[j]? = some v → Value.okWide Try.prog W .any base t v := hval0
  have hW' := hW
  obtain ⟨p, q, hA0, hV, rfl, hfz, hnd⟩ := hW
  have hA : DataW.TrodAll enc Try.prog W 0 (fun _ => true) true Try.f6.params.toList args.toList ds p := hA0
  rw [Try.params6] at hA hval
  obtain ⟨v0, vs0, d0, ds0, p0, q0, hargs, rfl, rfl, h0, r0⟩ := trodAll_cons hA
  obtain ⟨rfl, rfl, rfl⟩ := trodAll_nil r0
  obtain rfl : args = #[v0] := by cases args; simp_all
  obtain ⟨rfl, rfl⟩ := trodVars_none hV
  obtain ⟨a0, len0, cap0, rfl⟩ := okWide_slice Try.underlying35 (hval 0 35 v0 rfl rfl)
  have k0 := h0
  have lt0 : ∀ x ∈ p0, x.block < W.heap.size := by obtain ⟨m, hm⟩ := k0; exact DataW.trod_lt m _ _ _ hm
  obtain ⟨bs0, hb0⟩ : ∃ bs, BytesIn W W.heap.size (.slice a0 len0 cap0) bs := by
    obtain ⟨fuel, hf⟩ := h0
    exact bytes_of_trod fuel (fun _ => rfl) hf
  clear hA0 hval0
  refine (fnWidths_c hb0).mono fun e W' ⟨he, bel⟩ => ?_
  subst he
  exact ⟨_, rfl, _, _, _, [], _, [], hW', trodAll_mk1 (shut_bool Try.underlying4 _), (trodAll_cons_mk (Below.trod laidOut (by kernel_rfl) (of_decide_eq_true (by kernel_rfl)) k0 bel lt0) trodAll_mk0), rfl, bel.frame _, fun h => by cases h⟩

theorem closed : joinedFacts Try.prog 6 Try.f6 Rows.fnWidthsSpec Rows.fnWidthsRow = true := by
  unfold joinedFacts
  exact band (band (band (band (band (band (band (by kernel_rfl) fact_enter) fact_lifts) fact_make) (by kernel_rfl)) (by kernel_rfl)) (by kernel_rfl)) (by kernel_rfl)

theorem over : Rows.fnWidthsRow.holds Try.pinned (OpenSpec.ofChange Rows.fnWidthsSpec) :=
  OpenClaim.holds_of_wide 6 Try.f6 rfl rfl rfl rfl rfl rfl rfl ⟨rfl, rfl, rfl, rfl, rfl⟩ rfl rfl rfl rfl rfl (by kernel_rfl) Try.func6 closed
    (of_decide_eq_true (by kernel_rfl)) (by unfold Func.isWrapper; first | (rw [if_pos (by decide +kernel)]; kernel_rfl) | (rw [if_neg (by decide +kernel)]; exact ⟨rfl, rfl⟩))
    (fun os started H enc _ => lifted os started H enc)
end Go.Proofs.Ythiohdbcclbgkaa.fnWidthsRowP

/- For every slice of bytes, the law on widths returns true and leaves its arguments as they were; no conditions. -/
namespace Go.Proofs.Ythiohdbcclbgkaa

theorem widths_said : Rows.FnWidthsSaid := fnWidthsRowP.over
end Go.Proofs.Ythiohdbcclbgkaa

/- For every two slices of bytes, the law on ranks and keys returns true and leaves its arguments as they were; no conditions. -/
import Derived.Test.YtngaknljmkadbaaProg
import Derived.Test.YtngaknljmkadbaaBase
import Derived.Test.YtngaknljmkadbaaDrawOpen
import Derived.WalkKit
import Derived.ProofKit
import Derived.OpenShut
import Derived.ChangeOld
import Derived.Below
import Derived.Test.YtngaknljmkadbaaDrawHas
import Derived.Test.YtngaknljmkadbaaApp
import Derived.Test.YtngaknljmkadbaaKeys
import Derived.Test.YtngaknljmkadbaaPick
import Derived.Test.YtngaknljmkadbaaDraw1
import Derived.Test.YtngaknljmkadbaaTreeL
import Derived.Test.YtngaknljmkadbaaRegionOne
import Derived.Test.YtngaknljmkadbaaRegionMany
import Derived.Test.YtngaknljmkadbaaDrawSome
import Derived.Test.YtngaknljmkadbaaHasSpec
import Derived.Test.YtngaknljmkadbaaRkData
import Derived.Test.YtngaknljmkadbaaImRank
import Derived.Test.YtngaknljmkadbaaImKeyAt
import Derived.Test.YtngaknljmkadbaaRows
import Derived.Test.YtngaknljmkadbaaFacts

/- Bytes that came in, as a slice in memory. -/
namespace Go.Proofs.Ytngaknljmkadbaa
open Go.ChangeShapes Go.WideShapes Go.ChangeAt Go.RowKit
variable {H : Type} {enc : TypeId × Value → H} {w : World} {base : Nat} {spare : Nat → Bool} {held : Bool}

theorem Try.cellsU8 : Try.prog.cellsOf 5 = 1 := by kernel_rfl

theorem bytes_of_trod (fuel : Nat) {a0 : Option Addr} {len cap : Nat} {x : DataW H × List MemPlace} (hs : ∀ b, spare b = true) (h : DataW.trod enc Try.prog w base spare held fuel 22 [.slice a0 len cap] = some x) :
    ∃ bs, BytesIn w w.heap.size (.slice a0 len cap) bs := by
  rcases open_ints Try.underlying22 Try.underlying5 Try.cellsU8 h with ⟨hcs, hx⟩ | ⟨a, len', cap', zs, hcs, _, hl, hm, hz, hx, hcell, hwz⟩
  · simp only [List.cons.injEq, Value.slice.injEq, and_true] at hcs
    obtain ⟨rfl, rfl, rfl⟩ := hcs
    exact ⟨[], none, 0, rfl, Nat.le_refl _, by unfold maxLen; omega, (fun x h => by cases h), .inl rfl⟩
  · simp only [List.cons.injEq, Value.slice.injEq, and_true] at hcs
    obtain ⟨rfl, rfl, rfl⟩ := hcs
    rw [hs, if_pos rfl] at hz
    have hb : ∀ z ∈ zs, 0 ≤ z ∧ z ≤ 255 := fun z hz' => by
      have h5 := hwz z hz'
      have e1 : IntKind.u8.min = 0 := rfl
      have e2 : IntKind.u8.max = 255 := rfl
      simpa [Lit.wf, e1, e2] using h5
    have hlen : ((zs.take len).map Int.toNat).length = len := by simp; omega
    refine ⟨(zs.take len).map Int.toNat, some a, cap, by rw [hlen], by rw [hlen]; exact hl, hm, fun x hx => ?_, ?_⟩
    · obtain ⟨z, hz1, rfl⟩ := List.mem_map.1 hx
      have := hb z (List.mem_of_mem_take hz1)
      omega
    · by_cases h0 : len = 0
      · left; subst h0; simp
      · obtain ⟨b, off, spot⟩ := a
        have hspot : spot = none := by simpa [Addr.add] using World.cell?_spot (hcell 0 (by omega))
        subst hspot
        refine .inr ⟨b, off, rfl, ?_, fun i hi => ?_⟩
        · have h1 := hcell 0 (by omega)
          rw [add_plain] at h1
          exact World.block_lt_of_cell? w _ h1
        · rw [hlen] at hi
          have h1 := hcell i (by omega)
          rw [add_plain] at h1
          rw [h1]
          have hzi := hb zs[i] (List.getElem_mem (by omega))
          have e1 : zs.getD i 0 = zs[i] := by simp [List.getD_eq_getElem?_getD, show i < zs.length by omega]
          have e2 : ((zs.take len).map Int.toNat).getD i 0 = zs[i].toNat := by simp [List.getD_eq_getElem?_getD, hi, show i < zs.length by omega]
          rw [e1, e2]
          congr 2
          omega
end Go.Proofs.Ytngaknljmkadbaa

/- The model draws a tree and a number, to tell its rank. -/
namespace Go.Proofs.Ytngaknljmkadbaa
open Go.RowKit

set_option maxHeartbeats 1000000 in
set_option maxRecDepth 100000 in
theorem DrawRankOf_c {w : World} {B : Nat} {v : Value} {bs : List Nat} (h : BytesIn w B v bs) (w' : World) (hbw : Below B w w') (hB : B ≤ w'.heap.size) :
    Calls Try.prog 23 #[v] w' (HasDrawn w') := by
  obtain ⟨W1, hW1⟩ : ∃ W1, W1 = w'.alloc (.cells #[.slice none 0 0, .slice none 0 0] 26) := ⟨_, rfl⟩
  have hs1 : W1.heap.size = w'.heap.size + 1 := by rw [hW1]; simp
  have hb1 : Below w'.heap.size w' W1 := by rw [hW1]; exact (Below.refl _ _).alloc (Nat.le_refl _) _
  have hk1 : W1.heap[w'.heap.size]? = some (.cells #[.slice none 0 0, .slice none 0 0] 26 (0, 0)) := by rw [hW1, new_blk]
  have HD := Lib.hid (drawHas_c h W1 (hbw.trans (hb1.mono hB)) (by omega))
  have HW1 := Lib.hid hW1
  have H1 := Lib.hid (And.intro hb1 hk1)
  clear hW1 hb1 hk1 hbw h
  go_enter Try.func23, Try.ntmps23
  go_wp2_with fail
  rw [← HW1.out]
  refine HD.out.mono ?_
  rintro e w2 ⟨kv, cv, t, key, rfl, ht2, hw2, hkey, hb2⟩
  obtain ⟨b1, b2, b3, b4, b5, b6, rfl, rfl⟩ := ht2.slices
  have hs2 := hb2.size
  have hk2 := (hb2.block w'.heap.size (by omega)).trans H1.out.2
  obtain ⟨r1, r2, r3, r4⟩ := box2 hk2
  have H2 := Lib.hid (And.intro ht2 (And.intro hkey (And.intro (H1.out.1.trans (hb2.mono (by omega))) (And.intro hk2 hb2))))
  clear ht2 hkey hb2 hk2
  go_wp2_with fail
  obtain ⟨wf, hwf⟩ : ∃ wf, wf = (w2.setCell ⟨w'.heap.size, 0, none⟩ (.slice b1 b2 b3)).setCell ⟨w'.heap.size, 1, none⟩ (.slice b4 b5 b6) := ⟨_, rfl⟩
  have hfb : wf.heap[w'.heap.size]? = some (.cells #[.slice b1 b2 b3, .slice b4 b5 b6] 26 (0, 0)) := by
    rw [hwf]; exact set_blk (o := 1) _ (set_blk (o := 0) _ H2.out.2.2.2.1)
  obtain ⟨d1, d2, d3, d4⟩ := box2 hfb
  have hsf : wf.heap.size = w2.heap.size := by rw [hwf]; simp
  rw [← hwf]
  refine bodyPost_ret (v := .tuple #[.agg #[.slice b1 b2 b3, .slice b4 b5 b6], .int .i64 key]) (by simp [results, Try.results23, go_sem, d1, d2]) rfl ⟨_, _, t, key, rfl, ?_, hw2, H2.out.2.1, ?_⟩
  · refine H2.out.1.same (fun k hk => ?_) (fun k hk => ⟨by omega, by omega⟩)
    rw [hwf, set_other _ _ _ _ _ (by omega), set_other _ _ _ _ _ (by omega)]
  · rw [hwf]; exact (H2.out.2.2.1.setCell (by show w'.heap.size ≤ w'.heap.size; omega) _).setCell (by show w'.heap.size ≤ w'.heap.size; omega) _

end Go.Proofs.Ytngaknljmkadbaa

/- The model draws a tree and a rank. -/
namespace Go.Proofs.Ytngaknljmkadbaa
open Go.RowKit

/-- What drawing a tree and a rank leaves. -/
def AtDrawn (w : World) (e : Ending) (w' : World) : Prop :=
  ∃ (kv cv : Value) (t : Tr) (n : Int), e = .returned (.tuple #[.agg #[kv, cv], .int .i64 n]) ∧ TreeP w' (fun k => w.heap.size ≤ k ∧ k < w'.heap.size) kv cv t ∧ t.weight ≤ 400000 ∧ -1 ≤ n ∧ n ≤ 30 ∧ Below w.heap.size w w'

theorem num_get7r (x : Int) (hx : 0 ≤ x ∧ x < 8) (i : Nat) (h : i < 7) : -1 ≤ ([0, 1, 2, x, 5, -1, 30] : List Int).getD i 0 ∧ ([0, 1, 2, x, 5, -1, 30] : List Int).getD i 0 ≤ 30 := by
  rcases i with _ | _ | _ | _ | _ | _ | _ | i <;> simp <;> omega

/-- What the operations of its last statement leave. -/
def J3a (r S0 : Nat) (tv : Value) (j : Nat) (v : Value) (W : World) : Prop :=
  match j with
  | 0 => v = tv
  | 1 => v = .pointer (some ⟨r, 0, none⟩)
  | 2 => v = .pointer (some ⟨r, 0, none⟩)
  | 3 => ∃ x, v = .int .i64 x ∧ 0 ≤ x ∧ x < 8
  | 4 => ∃ g x, v = .slice (some ⟨g, 0, none⟩) 7 7 ∧ W.heap[g]? = some (.cells #[.int .i64 0, .int .i64 1, .int .i64 2, .int .i64 x, .int .i64 5, .int .i64 (-1), .int .i64 30] 3 (0, 0)) ∧ S0 ≤ g ∧ 0 ≤ x ∧ x < 8
  | 5 => ∃ n, v = .int .i64 n ∧ -1 ≤ n ∧ n ≤ 30
  | _ => True
theorem J3a_mono {r S0 : Nat} {tv : Value} (hr : r < S0) (j : Nat) (v : Value) (W W' : World) (h : J3a r S0 tv j v W) (hb : Only W.heap.size r W W') : J3a r S0 tv j v W' := by
  unfold J3a at h ⊢
  split at h
  all_goals first
    | exact h
    | (obtain ⟨g, x, h1, h2, h3⟩ := h; exact ⟨g, x, h1, (hb.block _ (Array.getElem?_eq_some_iff.1 h2).1 (by omega)).trans h2, h3⟩)
    | trivial

set_option maxHeartbeats 2000000 in
set_option maxRecDepth 100000 in
theorem drawAt_c {w : World} {B : Nat} {v : Value} {bs : List Nat} (h : BytesIn w B v bs) (w' : World) (hbw : Below B w w') (hB : B ≤ w'.heap.size) :
    Calls Try.prog 25 #[v] w' (AtDrawn w') := by
  obtain ⟨W1, hW1⟩ : ∃ W1, W1 = w'.alloc (.cells #[.slice none 0 0, .slice none 0 0] 26) := ⟨_, rfl⟩
  obtain ⟨R, hRe⟩ : ∃ R, R = w'.heap.size + 1 := ⟨_, rfl⟩
  have hs1 : W1.heap.size = R := by rw [hW1, hRe]; simp
  have hR1 : w'.heap.size < R := by omega
  have hR2 : R ≤ w'.heap.size + 1 := by omega
  have hb1 : Below w'.heap.size w' W1 := by rw [hW1]; exact (Below.refl _ _).alloc (Nat.le_refl _) _
  have hk1 : W1.heap[w'.heap.size]? = some (.cells #[.slice none 0 0, .slice none 0 0] 26 (0, 0)) := by rw [hW1, new_blk]
  have hop := open_c h W1 (hbw.trans (hb1.mono hB)) (by omega)
  rw [hs1] at hop
  have HO := Lib.hid hop
  clear hop hRe
  obtain ⟨va, vcap, rfl, -⟩ := h
  have HW1 := Lib.hid hW1
  have H1 := Lib.hid (And.intro hb1 hk1)
  clear hW1 hb1 hk1 hbw
  go_enter Try.func25, Try.ntmps25
  go_wp2_with fail
  rw [← HW1.out]
  refine HO.out.mono ?_
  rintro e w2 ⟨rfl, ⟨bs', hr2⟩, hb2⟩
  have hs2 := hb2.size
  have hrl2 := hr2.lt
  obtain ⟨p0, hp0, hr2⟩ : ∃ p0 : Nat, p0 ≤ 100 ∧ Rd w2 R R bs' p0 := ⟨0, by omega, hr2⟩
  have HS := Lib.hid (some_c w2 _ _ bs' p0 hr2 (by omega))
  have H2 := Lib.hid hb2
  clear hr2 hb2
  go_wp2_with fail
  refine HS.out.mono ?_
  rintro e w3 ⟨k3, c3, t, wide, q, rfl, _, _, ht3, hw3, hr3, hq3, ho3⟩
  obtain ⟨b1, b2, b3, b4, b5, b6, rfl, rfl⟩ := ht3.slices
  have hs3 := ho3.size
  have hk3 := (ho3.block w'.heap.size (by omega) (by omega)).trans ((H2.out.block w'.heap.size (by omega)).trans H1.out.2)
  obtain ⟨W4, hW4⟩ : ∃ W4, W4 = w3.alloc (.cells #[.slice b1 b2 b3, .slice b4 b5 b6] 26) := ⟨_, rfl⟩
  have hs4 : W4.heap.size = w3.heap.size + 1 := by rw [hW4]; simp
  have hb4 : Below w3.heap.size w3 W4 := by rw [hW4]; exact (Below.refl _ _).alloc (Nat.le_refl _) _
  have hx4 : W4.heap[w3.heap.size]? = some (.cells #[.slice b1 b2 b3, .slice b4 b5 b6] 26 (0, 0)) := by rw [hW4, new_blk]
  have ht4 : TreeP W4 (fun k => w2.heap.size ≤ k ∧ k < w3.heap.size) (.slice b1 b2 b3) (.slice b4 b5 b6) t := ht3.same (fun k hk => hb4.block k hk.2) (fun k hk => hk)
  have hk4 := (hb4.block w'.heap.size (by omega)).trans hk3
  have hr4 := hr3.later hb4 (by omega)
  have hbt : Below w'.heap.size w' W4 := H1.out.1.trans ((H2.out.mono (by omega)).trans ((ho3.below (B := w'.heap.size) (by omega) (by omega)).trans (hb4.mono (by omega))))
  have HW4 := Lib.hid hW4
  have H4 := Lib.hid (And.intro ht4 (And.intro hx4 (And.intro hk4 (And.intro hr4 hbt))))
  clear ht3 hr3 ho3 hk3 hW4 hb4 hx4 ht4 hk4 hr4 hbt
  go_upto_region 3 with (fail)
  rw [← HW4.out]
  have HRD := Lib.hid H4.out.2.2.2.1
  refine wp_region_many (n := 6) (by kernel_rfl) (by kernel_rfl) (by kernel_rfl) ?hn (by kernel_rfl) (fun i => 14 + i) (fun i j _ _ h => by omega)
    (fun a b => Only a.heap.size R a b) (fun a => Only.refl _ _ _) (fun a b c h1 h2 => h1.trans (h2.mono h1.size))
    (fun f W => ∃ q', Rd W R R bs' q' ∧ q' ≤ q + (if f 3 then 1 else 0) + (if f 5 then 1 else 0)) ⟨q, rd_drew H4.out.2.2.2.1, by simp⟩ (fun f g W h ⟨q', a, b⟩ => ⟨q', a, by rw [← h 3 (by omega), ← h 5 (by omega)]; exact b⟩)
    (J3a R W4.heap.size (.agg #[.slice b1 b2 b3, .slice b4 b5 b6])) (fun j v W W' h hb => J3a_mono (by omega) j v W W' h hb) ?hg ?hstep ?htail
  case hn => decide
  case hg =>
    intro i oi hi ho
    have hc : i = 0 ∨ i = 1 ∨ i = 2 ∨ i = 3 ∨ i = 4 ∨ i = 5 := by omega
    rcases hc with rfl | rfl | rfl | rfl | rfl | rfl
    all_goals (
      have ho' := Option.some.inj ho
      subst ho'
      exact ⟨rfl, rfl⟩)
  case hstep =>
    intro i oi hi ho a W f hfi hag hR hGb hpre
    have hc : i = 0 ∨ i = 1 ∨ i = 2 ∨ i = 3 ∨ i = 4 ∨ i = 5 := by omega
    have HSZ := Lib.hid (show a.tmps.size = 20 from hag.size.trans rfl)
    have hRsz : W4.heap.size ≤ W.heap.size := hR.size
    have hbx := (hR.block w3.heap.size (by show w3.heap.size < W4.heap.size; omega) (by omega)).trans H4.out.2.1
    have t4 : a.tmps[4]? = some (.pointer (some ⟨R, 0, none⟩)) := hag.other 4 (fun i hi => by show 14 + i ≠ 4; omega)
    have t5 : a.tmps[5]? = some (.pointer (some ⟨w3.heap.size, 0, none⟩)) := hag.other 5 (fun i hi => by show 14 + i ≠ 5; omega)
    obtain ⟨x1, x2, x3, x4⟩ := box2 hbx
    obtain ⟨q', hq', hq''⟩ := hGb
    have hqb : q' ≤ q + 2 := by
      have h3 : (if f 3 then 1 else 0) ≤ 1 := by split <;> omega
      have h5 : (if f 5 then 1 else 0) ≤ 1 := by split <;> omega
      omega
    have HQQ := Lib.hid (And.intro hq' hq'')
    have HFI := Lib.hid hfi
    clear hq' hq'' hag hR hbx hfi
    rcases hc with rfl | rfl | rfl | rfl | rfl | rfl
    · have ho' := Option.some.inj ho
      subst ho'
      go_simp
      exact ⟨_, rfl, by rw [HSZ.out]; decide, rfl, Only.refl _ _ _, q', HQQ.out.1, by simpa using HQQ.out.2⟩
    · have ho' := Option.some.inj ho
      subst ho'
      go_simp
      exact ⟨_, rfl, by rw [HSZ.out]; decide, rfl, Only.refl _ _ _, q', HQQ.out.1, by simpa using HQQ.out.2⟩
    · have ho' := Option.some.inj ho
      subst ho'
      go_simp
      exact ⟨_, rfl, by rw [HSZ.out]; decide, rfl, Only.refl _ _ _, q', HQQ.out.1, by simpa using HQQ.out.2⟩
    · have ho' := Option.some.inj ho
      subst ho'
      have p2 : a.tmps[16]?.getD undef = .pointer (some ⟨R, 0, none⟩) := hpre { on := 2, ground := Ground.data } (by simp) rfl
      have HPK := Lib.hid (pick_c W R R bs' q' 8 HQQ.out.1 (by omega) (by omega) (by omega))
      go_simp
      refine HPK.out.mono ?_
      rintro e w6 ⟨x, m6, rfl, hx0, hx1, _, hw6⟩
      have h3 := HFI.out
      have h4 := HQQ.out.2
      rw [h3] at h4
      exact ⟨_, rfl, by rw [HSZ.out]; decide, ⟨x, rfl, hx0, hx1 (by omega)⟩, by rw [hw6]; exact Only.picked _ _ _ _ _, q' + 1, by rw [hw6]; exact HQQ.out.1.picked m6, by simp at h4 ⊢; omega⟩
    · have ho' := Option.some.inj ho
      subst ho'
      obtain ⟨x, p3, hx0, hx1⟩ : J3a R W4.heap.size (.agg #[.slice b1 b2 b3, .slice b4 b5 b6]) 3 (a.tmps[17]?.getD undef) W := hpre { on := 3, ground := Ground.data } (by simp) rfl
      go_simp
      have hba : Below W.heap.size W (W.alloc (.cells #[.int .i64 0, .int .i64 1, .int .i64 2, .int .i64 x, .int .i64 5, .int .i64 (-1), .int .i64 30] 3)) := (Below.refl _ _).alloc (Nat.le_refl _) _
      exact ⟨_, rfl, by rw [HSZ.out]; decide, ⟨W.heap.size, x, rfl, new_blk _ _, (by omega), hx0, hx1⟩, below_only hba, q', rd_later' HQQ.out.1 hba, by simpa using HQQ.out.2⟩
    · have ho' := Option.some.inj ho
      subst ho'
      have p1 : a.tmps[15]?.getD undef = .pointer (some ⟨R, 0, none⟩) := hpre { on := 1, ground := Ground.data } (by simp) rfl
      obtain ⟨g, x, p4, hg, hgl, hx0, hx1⟩ : J3a R W4.heap.size (.agg #[.slice b1 b2 b3, .slice b4 b5 b6]) 4 (a.tmps[18]?.getD undef) W := hpre { on := 4, ground := Ground.data } (by simp) rfl
      have HNC := Lib.hid (num_c W R R bs' q' g [0, 1, 2, x, 5, -1, 30] 7 HQQ.out.1 (by omega) (by omega) (by simp) (by simp) (fun i hi => by
        have hi7 : i < 7 := by simpa using hi
        refine cell_in hg ?_
        rcases i with _ | _ | _ | _ | _ | _ | _ | i
        · rfl
        · rfl
        · rfl
        · rfl
        · rfl
        · rfl
        · rfl
        · omega))
      clear hg
      go_simp
      refine HNC.out.mono ?_
      rintro e w6 ⟨i, m6, hi, rfl, hw6⟩
      obtain ⟨g1, g2⟩ := num_get7r x ⟨hx0, hx1⟩ i (by simpa using hi)
      have h3 := HFI.out
      have h4 := HQQ.out.2
      rw [h3] at h4
      exact ⟨_, rfl, by rw [HSZ.out]; decide, ⟨_, rfl, g1, g2⟩, by rw [hw6]; exact Only.picked _ _ _ _ _, q' + 1, by rw [hw6]; exact HQQ.out.1.picked m6, by simp at h4 ⊢; omega⟩
  case htail =>
    intro a W hag hR hG hj
    have j0 : a.tmps[14]?.getD undef = .agg #[.slice b1 b2 b3, .slice b4 b5 b6] := hj 0 (by omega)
    have j1 : a.tmps[15]?.getD undef = .pointer (some ⟨R, 0, none⟩) := hj 1 (by omega)
    have j2 : a.tmps[16]?.getD undef = .pointer (some ⟨R, 0, none⟩) := hj 2 (by omega)
    obtain ⟨x, j3, _, _⟩ : J3a R W4.heap.size (.agg #[.slice b1 b2 b3, .slice b4 b5 b6]) 3 (a.tmps[17]?.getD undef) W := hj 3 (by omega)
    obtain ⟨g, x', j4, _⟩ : J3a R W4.heap.size (.agg #[.slice b1 b2 b3, .slice b4 b5 b6]) 4 (a.tmps[18]?.getD undef) W := hj 4 (by omega)
    obtain ⟨key, j5, hkey1, hkey2⟩ : J3a R W4.heap.size (.agg #[.slice b1 b2 b3, .slice b4 b5 b6]) 5 (a.tmps[19]?.getD undef) W := hj 5 (by omega)
    have ha := hag.eq
    rw [show List.range 6 = [0, 1, 2, 3, 4, 5] from rfl] at ha
    simp only [List.foldl_cons, List.foldl_nil, Nat.reduceAdd, j0, j1, j2, j3, j4, j5] at ha
    clear hj hag j0 j1 j2 j3 j4 j5
    subst ha
    have hRsz : W4.heap.size ≤ W.heap.size := hR.size
    have hkx := (hR.block w'.heap.size (by show w'.heap.size < W4.heap.size; omega) (by omega)).trans H4.out.2.2.1
    have htx : TreeP W (fun k => w2.heap.size ≤ k ∧ k < w3.heap.size) (.slice b1 b2 b3) (.slice b4 b5 b6) t := H4.out.1.same (fun k hk => hR.block k (by show k < W4.heap.size; omega) (by omega)) (fun k hk => hk)
    have hbx : Below w'.heap.size w' W := H4.out.2.2.2.2.trans ((only_undrew hR).below (B := w'.heap.size) (show w'.heap.size ≤ W4.heap.size by omega) (by omega))
    obtain ⟨r1, r2, r3, r4⟩ := box2 hkx
    have HX := Lib.hid (And.intro hkx (And.intro htx (And.intro hbx (And.intro hkey1 hkey2))))
    clear hR hG hkx htx hbx hkey1 hkey2
    change wpAny _ _ _ _ 2 _ _ _
    simp only [List.setIfInBounds_toArray, List.set_cons_succ, List.set_cons_zero]
    refine wpAny_ready (rs := [6]) (by kernel_rfl) (by simp) (AllReady.cons rfl (fun K25 hK25 => ?_) AllReady.nil)
    go_simp
    refine hK25 _ _ ?_
    clear hK25 K25
    refine wpAny_ready (rs := [7]) (by kernel_rfl) (by simp) (AllReady.cons rfl (fun K25 hK25 => ?_) AllReady.nil)
    go_simp
    refine hK25 _ _ ?_
    clear hK25 K25
    refine wpAny_done (by kernel_rfl) ?_ _
    go_wp2_with fail
    obtain ⟨wf, hwf⟩ : ∃ wf, wf = (W.setCell ⟨w'.heap.size, 0, none⟩ (.slice b1 b2 b3)).setCell ⟨w'.heap.size, 1, none⟩ (.slice b4 b5 b6) := ⟨_, rfl⟩
    have hfb : wf.heap[w'.heap.size]? = some (.cells #[.slice b1 b2 b3, .slice b4 b5 b6] 26 (0, 0)) := by
      rw [hwf]; exact set_blk (o := 1) _ (set_blk (o := 0) _ HX.out.1)
    obtain ⟨d1, d2, d3, d4⟩ := box2 hfb
    have hsf : wf.heap.size = W.heap.size := by rw [hwf]; simp
    rw [← hwf]
    refine bodyPost_ret (v := .tuple #[.agg #[.slice b1 b2 b3, .slice b4 b5 b6], .int .i64 key]) (by simp [results, Try.results25, go_sem, d1, d2]) rfl ⟨_, _, t, key, rfl, ?_, by omega, HX.out.2.2.2.1, HX.out.2.2.2.2, ?_⟩
    · refine HX.out.2.1.same (fun k hk => ?_) (fun k hk => ⟨by omega, by omega⟩)
      rw [hwf, set_other _ _ _ _ _ (by omega), set_other _ _ _ _ _ (by omega)]
    · rw [hwf]; exact (HX.out.2.2.1.setCell (by show w'.heap.size ≤ w'.heap.size; omega) _).setCell (by show w'.heap.size ≤ w'.heap.size; omega) _
end Go.Proofs.Ytngaknljmkadbaa

/- The law on ranks: the walk over the contracts. -/
namespace Go.Proofs.Ytngaknljmkadbaa
open Go.RowKit

set_option maxHeartbeats 4000000 in
set_option maxRecDepth 100000 in
theorem fnRank_c {w : World} {v1 v2 : Value} {bs1 bs2 : List Nat} (h1 : BytesIn w w.heap.size v1 bs1) (h2 : BytesIn w w.heap.size v2 bs2) :
    Calls Try.prog 6 #[v1, v2] w fun e w' => e = .returned (.bool true) ∧ Below w.heap.size w w' := by
  have H1 := Lib.hid h1
  have H2 := Lib.hid h2
  obtain ⟨a1, c1, rfl, -⟩ := h1
  obtain ⟨a2, c2, rfl, -⟩ := h2
  by_cases hc1 : bs1.length ≤ 1048576
  case neg =>
    have hc1' : ((bs1.length : Int) > 1048576) := by omega
    go_enter Try.func6, Try.ntmps6
    go_wp2_with fail
    go_ret
    exact ⟨rfl, Below.refl _ _⟩
  by_cases hc2 : bs2.length ≤ 1048576
  case neg =>
    have hc1' : ¬ ((bs1.length : Int) > 1048576) := by omega
    have hc2' : ((bs2.length : Int) > 1048576) := by omega
    go_enter Try.func6, Try.ntmps6
    go_wp2_with fail
    go_ret
    exact ⟨rfl, Below.refl _ _⟩
  have hc1' : ¬ ((bs1.length : Int) > 1048576) := by omega
  have hc2' : ¬ ((bs2.length : Int) > 1048576) := by omega
  have HD1 := Lib.hid (DrawRankOf_c H1.out w (Below.refl _ _) (Nat.le_refl _))
  go_enter Try.func6, Try.ntmps6
  go_wp2_with fail
  refine HD1.out.mono ?_
  rintro e w2 ⟨k2, d2, t, key, rfl, ht2, hw2, hkey, hb2⟩
  obtain ⟨b1, b2, b3, b4, b5, b6, rfl, rfl⟩ := ht2.slices
  have hs2 := hb2.size
  obtain ⟨W3, hW3⟩ : ∃ W3, W3 = w2.alloc (.cells #[.slice b1 b2 b3, .slice b4 b5 b6] 26) := ⟨_, rfl⟩
  have hs3 : w2.heap.size < W3.heap.size := by rw [hW3]; simp
  have hb3 : Below w2.heap.size w2 W3 := by rw [hW3]; exact (Below.refl _ _).alloc (Nat.le_refl _) _
  have hx3 : W3.heap[w2.heap.size]? = some (.cells #[.slice b1 b2 b3, .slice b4 b5 b6] 26 (0, 0)) := by rw [hW3, new_blk]
  have ht3 : TreeIn W3 w2.heap.size (.slice b1 b2 b3) (.slice b4 b5 b6) t := (ht2.tree (fun k hk => hk.2)).later hb3 (Nat.le_refl _)
  have hi1 := impl_rank ht3 (by omega) key W3 (Below.refl _ _) (by omega)
  have hrl := Tr.rank_le (t := t) (key := key)
  obtain ⟨rk, hrk⟩ : ∃ rk, rk = t.rankB key := ⟨_, rfl⟩
  rw [← hrk] at hi1 hrl
  have HI1 := Lib.hid hi1
  have HRK := Lib.hid hrk
  have hx3x := hx3
  rw [hW3] at hx3x
  obtain ⟨x1, x2, x3, x4⟩ := box2 hx3x
  have HW3 := Lib.hid hW3
  have HT3 := Lib.hid ht3
  have H3 := Lib.hid (And.intro (hb2.trans (hb3.mono (by omega))) hx3)
  clear ht2 hkey hb2 hW3 hb3 hx3 hx3x ht3 hi1 hrk
  go_wp2_with fail
  rw [← HW3.out]
  refine HI1.out.mono ?_
  rintro e w4 ⟨rfl, hb4⟩
  have hs4 := hb4.size
  have hbw4 : Below w.heap.size w w4 := H3.out.1.trans (hb4.mono (by omega))
  have HD2 := Lib.hid (drawAt_c H2.out w4 hbw4 (by omega))
  have H4 := Lib.hid (And.intro hb4 hbw4)
  clear hb4 hbw4 x1 x2 x3 x4
  go_wp2_with fail
  refine HD2.out.mono ?_
  rintro e w6 ⟨k6, d6, u, ix, rfl, ht6, hw6, hix1, hix2, hb6⟩
  obtain ⟨p1, p2, p3, p4, p5, p6, rfl, rfl⟩ := ht6.slices
  have hs6 := hb6.size
  obtain ⟨W7, hW7⟩ : ∃ W7, W7 = w6.alloc (.cells #[.slice p1 p2 p3, .slice p4 p5 p6] 26) := ⟨_, rfl⟩
  have hs7 : w6.heap.size < W7.heap.size := by rw [hW7]; simp
  have hb7 : Below w6.heap.size w6 W7 := by rw [hW7]; exact (Below.refl _ _).alloc (Nat.le_refl _) _
  have hx7 : W7.heap[w6.heap.size]? = some (.cells #[.slice p1 p2 p3, .slice p4 p5 p6] 26 (0, 0)) := by rw [hW7, new_blk]
  have ht7 : TreeIn W7 w6.heap.size (.slice p1 p2 p3) (.slice p4 p5 p6) u := (ht6.tree (fun k hk => hk.2)).later hb7 (Nat.le_refl _)
  have hi3 := impl_keyAt ht7 (by omega) ix (by omega) W7 (Below.refl _ _) (by omega)
  obtain ⟨k1, hk1⟩ : ∃ k1, k1 = (u.keyAtB ix).1 := ⟨_, rfl⟩
  obtain ⟨ok, hok⟩ : ∃ ok, ok = (u.keyAtB ix).2 := ⟨_, rfl⟩
  rw [← hk1, ← hok] at hi3
  have HI3 := Lib.hid hi3
  have HKA := Lib.hid (show u.keyAtB ix = (k1, ok) by rw [hk1, hok])
  have HK1 := Lib.hid (And.intro hk1 hok)
  have hx7x := hx7
  rw [hW7] at hx7x
  obtain ⟨x1, x2, x3, x4⟩ := box2 hx7x
  have HW7 := Lib.hid hW7
  have HT7 := Lib.hid ht7
  have H7 := Lib.hid (And.intro (H4.out.1.trans ((hb6.mono (by omega)).trans (hb7.mono (by omega)))) hx7)
  clear ht6 hb6 hW7 hb7 hx7 hx7x ht7 hi3 hk1 hok
  go_wp2_with fail
  rw [← HW7.out]
  refine HI3.out.mono ?_
  rintro e w8 ⟨rfl, hb8⟩
  have hs8 := hb8.size
  clear x1 x2 x3 x4
  have hx8 := (hb8.block w6.heap.size (by omega)).trans H7.out.2
  obtain ⟨x1, x2, x3, x4⟩ := box2 hx8
  have hsp := specKeyAt_c HT7.out (by omega) ix w8 (hb8.mono (by omega)) (by omega)
  rw [← HK1.out.1, ← HK1.out.2] at hsp
  have HI4 := Lib.hid hsp
  have H8 := Lib.hid hb8
  clear hb8 hx8 hsp
  go_wp2_with fail
  refine HI4.out.mono ?_
  rintro e w9 ⟨rfl, hb9⟩
  have hs9 := hb9.size
  have hb79 : Below W7.heap.size W7 w9 := H8.out.trans (hb9.mono (by omega))
  have hb39 : Below W3.heap.size W3 w9 := H7.out.1.trans (hb79.mono (by omega))
  clear x1 x2 x3 x4
  obtain ⟨x1, x2, x3, x4⟩ := box2 ((hb39.block w2.heap.size (by omega)).trans H3.out.2)
  have hsp := specRankOf_c HT3.out (by omega) key w9 (hb39.mono (by omega)) (by omega)
  rw [← HRK.out] at hsp
  have HI5 := Lib.hid hsp
  have H9 := Lib.hid (And.intro hb79 hb39)
  clear hb9 hb79 hb39 hsp
  have e1 : (rk != rk) = false := by simp
  have e2 : (rk == rk) = true := by simp
  have e3 : (k1 != k1) = false := by simp
  have e4 : (k1 == k1) = true := by simp
  have e5 : (ok != ok) = false := by simp
  have e6 : (ok == ok) = true := by simp
  have e7 : (ix != ix) = false := by simp
  have e8 : (key == key) = true := by simp
  by_cases hneg : rk < 0
  · go_wp2_with fail
    refine HI5.out.mono ?_
    rintro e w10 ⟨rfl, hb10⟩
    have hs10 := hb10.size
    have hb310 : Below W3.heap.size W3 w10 := H9.out.2.trans (hb10.mono (by omega))
    clear x1 x2 x3 x4
    obtain ⟨x1, x2, x3, x4⟩ := box2 ((hb310.block w2.heap.size (by omega)).trans H3.out.2)
    have hsp := specRankOf_c HT3.out (by omega) key w10 (hb310.mono (by omega)) (by omega)
    rw [← HRK.out] at hsp
    have HI6 := Lib.hid hsp
    have H10 := Lib.hid hb310
    clear hb10 hb310 hsp
    go_wp2_with fail
    refine HI6.out.mono ?_
    rintro e w11 ⟨rfl, hb11⟩
    have HB := Lib.hid (H3.out.1.trans ((H10.out.trans (hb11.mono (by omega))).mono (by omega)))
    clear hb11
    go_wp2_with fail
    go_ret
    exact ⟨rfl, HB.out⟩
  · have HSM := Lib.hid (Tr.rank_some (t := t) (key := key) (by rw [← HRK.out]; omega))
    go_wp2_with fail
    refine HI5.out.mono ?_
    rintro e w10 ⟨rfl, hb10⟩
    have hs10 := hb10.size
    have hb710 : Below W7.heap.size W7 w10 := H9.out.1.trans (hb10.mono (by omega))
    have H10 := Lib.hid hb710
    clear hb10 hb710 x1 x2 x3 x4
    cases ok with
    | false =>
      have HX := Lib.hid (H10.out)
      have hsx : W7.heap.size ≤ w10.heap.size := HX.out.size
      have hb3x : Below W3.heap.size W3 w10 := H7.out.1.trans (HX.out.mono (by omega))
      obtain ⟨x1, x2, x3, x4⟩ := box2 ((hb3x.block w2.heap.size (by omega)).trans H3.out.2)
      have hi9 := impl_keyAt HT3.out (by omega) rk (by omega) w10 (hb3x.mono (by omega)) (by omega)
      obtain ⟨at1, hat1⟩ : ∃ at1, at1 = (t.keyAtB rk).1 := ⟨_, rfl⟩
      obtain ⟨th1, hth1⟩ : ∃ th1, th1 = (t.keyAtB rk).2 := ⟨_, rfl⟩
      rw [← hat1, ← hth1] at hi9
      have HI9 := Lib.hid hi9
      have HAT := Lib.hid (And.intro hat1 hth1)
      have H3X := Lib.hid hb3x
      clear hi9 hat1 hth1 hb3x
      go_wp2_with fail
      refine HI9.out.mono ?_
      rintro e w20 ⟨rfl, hb20⟩
      have hs20 := hb20.size
      have hb320 : Below W3.heap.size W3 w20 := H3X.out.trans (hb20.mono (by omega))
      clear x1 x2 x3 x4
      obtain ⟨x1, x2, x3, x4⟩ := box2 ((hb320.block w2.heap.size (by omega)).trans H3.out.2)
      have hia := impl_has HT3.out (by omega) key w20 (hb320.mono (by omega)) (by omega)
      have hfact := Tr.has_fact (key := key) HSM.out
      obtain ⟨hk, hhk⟩ : ∃ hk, hk = (t.pathB key).2 := ⟨_, rfl⟩
      rw [← hhk] at hia hfact
      have HIA := Lib.hid hia
      have H20 := Lib.hid hb320
      clear hia hb20 hb320 hhk
      cases hk with
      | false =>
        clear hfact
        go_wp2_with fail
        refine HIA.out.mono ?_
        rintro e w21 ⟨rfl, hb21⟩
        have HB := Lib.hid (H3.out.1.trans ((H20.out.trans (hb21.mono (by omega))).mono (by omega)))
        clear hb21
        go_wp2_with fail
        go_ret
        exact ⟨rfl, HB.out⟩
      | true =>
        have hff := hfact rfl
        rw [← HRK.out] at hff
        have ha1 : at1 = key := by rw [HAT.out.1, hff]
        have ha2 : th1 = true := by rw [HAT.out.2, hff]
        subst ha1 ha2
        clear hfact hff
        go_wp2_with fail
        refine HIA.out.mono ?_
        rintro e w21 ⟨rfl, hb21⟩
        have HB := Lib.hid (H3.out.1.trans ((H20.out.trans (hb21.mono (by omega))).mono (by omega)))
        clear hb21
        go_wp2_with fail
        go_ret
        exact ⟨rfl, HB.out⟩
    | true =>
      obtain ⟨hf1, hf2⟩ := Tr.at_fact HKA.out
      obtain ⟨x1, x2, x3, x4⟩ := box2 ((H10.out.block w6.heap.size (by omega)).trans H7.out.2)
      have hi7 := impl_rank HT7.out (by omega) k1 w10 (H10.out.mono (by omega)) (by have := H10.out.size; omega)
      rw [hf1] at hi7
      have HI7 := Lib.hid hi7
      have HF2 := Lib.hid hf2
      clear hi7 hf1 hf2
      go_wp2_with fail
      refine HI7.out.mono ?_
      rintro e w11 ⟨rfl, hb11⟩
      have hs11 := hb11.size
      have hb711 : Below W7.heap.size W7 w11 := H10.out.trans (hb11.mono (by have := H10.out.size; omega))
      clear x1 x2 x3 x4
      obtain ⟨x1, x2, x3, x4⟩ := box2 ((hb711.block w6.heap.size (by omega)).trans H7.out.2)
      have hi8 := impl_has HT7.out (by omega) k1 w11 (hb711.mono (by omega)) (by have := hb711.size; omega)
      rw [HF2.out] at hi8
      have HI8 := Lib.hid hi8
      have H11 := Lib.hid hb711
      clear hi8 hb11 hb711
      go_wp2_with fail
      refine HI8.out.mono ?_
      rintro e w12 ⟨rfl, hb12⟩
      have HX := Lib.hid (H11.out.trans (hb12.mono (by have := H11.out.size; omega)))
      have hsx : W7.heap.size ≤ w12.heap.size := HX.out.size
      clear hb12 x1 x2 x3 x4
      have hb3x : Below W3.heap.size W3 w12 := H7.out.1.trans (HX.out.mono (by omega))
      obtain ⟨x1, x2, x3, x4⟩ := box2 ((hb3x.block w2.heap.size (by omega)).trans H3.out.2)
      have hi9 := impl_keyAt HT3.out (by omega) rk (by omega) w12 (hb3x.mono (by omega)) (by omega)
      obtain ⟨at1, hat1⟩ : ∃ at1, at1 = (t.keyAtB rk).1 := ⟨_, rfl⟩
      obtain ⟨th1, hth1⟩ : ∃ th1, th1 = (t.keyAtB rk).2 := ⟨_, rfl⟩
      rw [← hat1, ← hth1] at hi9
      have HI9 := Lib.hid hi9
      have HAT := Lib.hid (And.intro hat1 hth1)
      have H3X := Lib.hid hb3x
      clear hi9 hat1 hth1 hb3x
      go_wp2_with fail
      refine HI9.out.mono ?_
      rintro e w20 ⟨rfl, hb20⟩
      have hs20 := hb20.size
      have hb320 : Below W3.heap.size W3 w20 := H3X.out.trans (hb20.mono (by omega))
      clear x1 x2 x3 x4
      obtain ⟨x1, x2, x3, x4⟩ := box2 ((hb320.block w2.heap.size (by omega)).trans H3.out.2)
      have hia := impl_has HT3.out (by omega) key w20 (hb320.mono (by omega)) (by omega)
      have hfact := Tr.has_fact (key := key) HSM.out
      obtain ⟨hk, hhk⟩ : ∃ hk, hk = (t.pathB key).2 := ⟨_, rfl⟩
      rw [← hhk] at hia hfact
      have HIA := Lib.hid hia
      have H20 := Lib.hid hb320
      clear hia hb20 hb320 hhk
      cases hk with
      | false =>
        clear hfact
        go_wp2_with fail
        refine HIA.out.mono ?_
        rintro e w21 ⟨rfl, hb21⟩
        have HB := Lib.hid (H3.out.1.trans ((H20.out.trans (hb21.mono (by omega))).mono (by omega)))
        clear hb21
        go_wp2_with fail
        go_ret
        exact ⟨rfl, HB.out⟩
      | true =>
        have hff := hfact rfl
        rw [← HRK.out] at hff
        have ha1 : at1 = key := by rw [HAT.out.1, hff]
        have ha2 : th1 = true := by rw [HAT.out.2, hff]
        subst ha1 ha2
        clear hfact hff
        go_wp2_with fail
        refine HIA.out.mono ?_
        rintro e w21 ⟨rfl, hb21⟩
        have HB := Lib.hid (H3.out.1.trans ((H20.out.trans (hb21.mono (by omega))).mono (by omega)))
        clear hb21
        go_wp2_with fail
        go_ret
        exact ⟨rfl, HB.out⟩
end Go.Proofs.Ytngaknljmkadbaa

/- The statement on ranks and keys, from the walk of its law. -/
namespace Go.Proofs.Ytngaknljmkadbaa.fnRankRowP
open Go.ChangeShapes Go.WideShapes Go.ChangeAt Go.RowKit
set_option linter.unusedVariables false

theorem own : ownKnob Try.prog.godebug = none := by kernel_rfl
theorem laidOut : laidOutB Try.prog = true := by kernel_rfl

set_option maxRecDepth 100000 in
set_option maxHeartbeats 1000000 in
theorem lifted (os : Os) (started : os.Started) (H : Type) (enc : TypeId × Value → H) :
    ReturnsInHanded {} Try.checked os 6 .any (Rows.fnRankSpec.pre6 enc Try.prog Try.f6 Rows.fnRankRow.domain false) (Rows.fnRankSpec.post enc Try.prog Try.f6 false true false false) := by
  refine returnsInHanded_of_change (C := Try.checked) own started (by kernel_rfl) Try.func6
    (ChangeSpec.witness6 (enc := enc) (C := Try.checked) false ⟨#[], #[.slice none 0 0, .slice none 0 0], []⟩ 8 (by kernel_rfl) (by kernel_rfl) (by kernel_rfl) (by kernel_rfl)) ?_
  intro W base args ds gs before hval0 hW hcnd _
  have hval : ∀ (j : Nat) t v, Try.f6.params[j]? = some t → args[j]? = some v → Value.okWide Try.prog W .any base t v := hval0
  have hW' := hW
  obtain ⟨p, q, hA0, hV, rfl, hfz, hnd⟩ := hW
  have hA : DataW.TrodAll enc Try.prog W 0 (fun _ => true) true Try.f6.params.toList args.toList ds p := hA0
  rw [Try.params6] at hA hval
  obtain ⟨v0, vs0, d0, ds0, p0, q0, hargs, rfl, rfl, h0, r0⟩ := trodAll_cons hA
  obtain ⟨v1, vs1, d1, ds1, p1, q1, rfl, rfl, rfl, h1, r1⟩ := trodAll_cons r0
  obtain ⟨rfl, rfl, rfl⟩ := trodAll_nil r1
  obtain rfl : args = #[v0, v1] := by cases args; simp_all
  obtain ⟨rfl, rfl⟩ := trodVars_none hV
  obtain ⟨a0, len0, cap0, rfl⟩ := okWide_slice Try.underlying22 (hval 0 22 v0 rfl rfl)
  obtain ⟨a1, len1, cap1, rfl⟩ := okWide_slice Try.underlying22 (hval 1 22 v1 rfl rfl)
  have k0 := h0
  have k1 := h1
  have lt0 : ∀ x ∈ p0, x.block < W.heap.size := by obtain ⟨m, hm⟩ := k0; exact DataW.trod_lt m _ _ _ hm
  have lt1 : ∀ x ∈ p1, x.block < W.heap.size := by obtain ⟨m, hm⟩ := k1; exact DataW.trod_lt m _ _ _ hm
  obtain ⟨bs0, hb0⟩ : ∃ bs, BytesIn W W.heap.size (.slice a0 len0 cap0) bs := by
    obtain ⟨fuel, hf⟩ := h0
    exact bytes_of_trod fuel (fun _ => rfl) hf
  obtain ⟨bs1, hb1⟩ : ∃ bs, BytesIn W W.heap.size (.slice a1 len1 cap1) bs := by
    obtain ⟨fuel, hf⟩ := h1
    exact bytes_of_trod fuel (fun _ => rfl) hf
  clear hA0 hval0
  refine (fnRank_c hb0 hb1).mono fun e W' ⟨he, bel⟩ => ?_
  subst he
  exact ⟨_, rfl, _, _, _, [], _, [], hW', trodAll_mk1 (shut_bool Try.underlying4 _), (trodAll_cons_mk (Below.trod laidOut (by kernel_rfl) (of_decide_eq_true (by kernel_rfl)) k0 bel lt0) (trodAll_cons_mk (Below.trod laidOut (by kernel_rfl) (of_decide_eq_true (by kernel_rfl)) k1 bel lt1) trodAll_mk0)), rfl, bel.frame _, fun h => by cases h⟩

theorem closed : joinedFacts Try.prog 6 Try.f6 Rows.fnRankSpec Rows.fnRankRow = true := by
  unfold joinedFacts
  exact band (band (band (band (band (band (band (by kernel_rfl) fact_enter) fact_lifts) fact_make) (by kernel_rfl)) (by kernel_rfl)) (by kernel_rfl)) (by kernel_rfl)

theorem over : Rows.fnRankRow.holds Try.pinned (OpenSpec.ofChange Rows.fnRankSpec) :=
  OpenClaim.holds_of_wide 6 Try.f6 rfl rfl rfl rfl rfl rfl rfl ⟨rfl, rfl, rfl, rfl, rfl⟩ rfl rfl rfl rfl rfl (by kernel_rfl) Try.func6 closed
    (of_decide_eq_true (by kernel_rfl)) (by unfold Func.isWrapper; first | (rw [if_pos (by decide +kernel)]; kernel_rfl) | (rw [if_neg (by decide +kernel)]; exact ⟨rfl, rfl⟩))
    (fun os started H enc _ => lifted os started H enc)
end Go.Proofs.Ytngaknljmkadbaa.fnRankRowP

/- For every two slices of bytes, the law on ranks and keys returns true and leaves its arguments as they were; no conditions. -/
namespace Go.Proofs.Ytngaknljmkadbaa

theorem rank_said : Rows.FnRankSaid := fnRankRowP.over
end Go.Proofs.Ytngaknljmkadbaa

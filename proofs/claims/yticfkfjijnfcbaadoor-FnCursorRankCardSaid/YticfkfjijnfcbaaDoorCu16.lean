/- The model's CursorValid. -/
import Derived.Test.YticfkfjijnfcbaaDoorCu15
import Derived.Test.YticfkfjijnfcbaaDoorCu10
/- Whether a tree is valid for some width: the program. -/
namespace Go.Proofs.YticfkfjijnfcbaaDoor
open Go.RowKit
set_option maxRecDepth 100000 in
set_option maxHeartbeats 1000000 in
theorem validForSome_c {w : World} {B : Nat} {kv cv : Value} {t : Tr} (ht : TreeIn w B kv cv t) (hw : t.weight ≤ 1048576) (w' : World) (hbw : Below B w w') (hB : B ≤ w'.heap.size) :
   Calls Tryd.prog 86 #[.agg #[kv, cv]] w' fun e w'' => e = .returned (.bool t.someB) ∧ Below w'.heap.size w' w'' := by
 obtain ⟨a5, n5, m5, a6, n6, m6, rfl, rfl⟩ := ht.slices
 obtain ⟨W1, hW1⟩ : ∃ W1, W1 = w'.alloc (.cells #[.slice a5 n5 m5, .slice a6 n6 m6] 33) := ⟨_, rfl⟩
 have hs1 : W1.heap.size = w'.heap.size + 1 := by rw [hW1]; simp
 have hb1 : Below w'.heap.size w' W1 := by rw [hW1]; exact (Below.refl _ _).alloc (Nat.le_refl _) _
 have kb : W1.heap[w'.heap.size]? = some (.cells #[.slice a5 n5 m5, .slice a6 n6 m6] 33 (0, 0)) := by rw [hW1, new_blk]
 have HT := Lib.hid ht
 have HBW := Lib.hid hbw
 have HW1 := Lib.hid hW1
 have H1 := Lib.hid (And.intro hb1 kb)
 have hsb := someB_of t
 have HSB := Lib.hid hsb
 clear ht hbw hW1 hb1 kb hsb
 go_enter Tryd.func86, Tryd.ntmps86
 go_wp2_with fail
 rw [← HW1.out]
 go_loopw [3] (fun i wr => ∃ (j : Nat), 2 ≤ j ∧ j ≤ 7 ∧ i = .int .i64 j ∧ (∀ q : Nat, 2 ≤ q → q < j → Tr.validB q t = false) ∧ Below W1.heap.size W1 wr) (fun i _ => 7 - (intOf i).toNat)
 case atStart => exact ⟨2, Nat.le_refl _, by omega, rfl, fun q h1 h2 => by omega, Below.refl _ _⟩
 case round =>
   obtain ⟨j, hj2, hj7, rfl, hall, hbel⟩ := hrel
   have hsr := hbel.size
   obtain ⟨x1, x2, x3, x4⟩ := box2 ((hbel.block w'.heap.size (by omega)).trans H1.out.2)
   have HALL := Lib.hid hall
   have HBEL := Lib.hid hbel
   clear hall hbel
   by_cases hlt : j ≤ 6
   · have hlt' : (j : Int) ≤ 6 := by omega
     go_wp2_with fail
     refine (impl_valid _ _ _ _ _ (j : Int) HT.out hw (by omega) (by omega) wr (HBW.out.trans ((H1.out.1.mono hB).trans (HBEL.out.mono (by omega)))) (by omega)).mono ?_
     rintro e w2 ⟨rfl, hb2⟩
     have HB2 := Lib.hid (HBEL.out.trans (hb2.mono hsr))
     clear hb2
     cases hv : Tr.validB j t with
     | true =>
       have hso := HSB.out.1 j hj2 (by omega) hv
       have HSO := Lib.hid hso
       have HV := Lib.hid hv
       clear hso hv
       go_wp2_with fail
       go_ret
       exact ⟨ret_bool HSO.out.symm, H1.out.1.trans (HB2.out.mono (by omega))⟩
     | false =>
       have HV := Lib.hid hv
       clear hv
       go_wp2_with fail
       go_roundw
       case rel =>
         refine ⟨j + 1, by omega, by omega, by go_num, fun q h1 h2 => ?_, HB2.out⟩
         by_cases hq : q = j
         · rw [hq]; exact HV.out
         · exact HALL.out q h1 (by omega)
       case measure => simp [intOf]; omega
   · have hlt' : ¬ (j : Int) ≤ 6 := by omega
     have hso := HSB.out.2 (fun q h1 h2 => HALL.out q h1 (by omega))
     have HSO := Lib.hid hso
     clear hso
     go_wp2_with fail
     go_ret
     exact ⟨ret_bool HSO.out.symm, H1.out.1.trans (HBEL.out.mono (by omega))⟩
end Go.Proofs.YticfkfjijnfcbaaDoor
/- Finding: the nodes on the way to a number, as they lie in memory. -/
namespace Go.Proofs.YticfkfjijnfcbaaDoor
open Go.RowKit
inductive NodeAt (w : World) (lo hi : Nat) : Nat → Tr → Prop where
 | mk (ks : List Int) (cs : List Tr) (b : Nat) (kv : Value) (a : Option Addr) (cap : Nat) (ps : Nat → Nat)
     (hlo : lo ≤ b) (hhi : b < hi)
     (hbox : w.heap[b]? = some (.cells #[kv, .slice a cs.length cap] 110 (0, 0)))
     (hk : IntsR w lo hi kv ks) (hlen : cs.length ≤ cap) (hcap : cap ≤ maxLen) (hat : PtrsR w lo hi a cs.length ps)
     (hkids : ∀ i (h : i < cs.length), NodeAt w lo hi (ps i) cs[i]) : NodeAt w lo hi b (.mk ks cs)
theorem NodeAt.parts {w : World} {lo hi b : Nat} {ks : List Int} {cs : List Tr} (h : NodeAt w lo hi b (.mk ks cs)) :
   ∃ (kv : Value) (a : Option Addr) (cap : Nat) (ps : Nat → Nat), lo ≤ b ∧ b < hi ∧ w.heap[b]? = some (.cells #[kv, .slice a cs.length cap] 110 (0, 0)) ∧ IntsR w lo hi kv ks ∧ cs.length ≤ cap ∧ cap ≤ maxLen ∧ PtrsR w lo hi a cs.length ps ∧
     ∀ i (h : i < cs.length), NodeAt w lo hi (ps i) cs[i] := by
 cases h with
 | mk _ _ _ kv a cap ps hlo hhi hbox hk hlen hcap hat hkids => exact ⟨kv, a, cap, ps, hlo, hhi, hbox, hk, hlen, hcap, hat, hkids⟩
theorem NodeAt.widen {w : World} {lo hi lo' hi' b : Nat} {t : Tr} (h : NodeAt w lo hi b t) (h1 : lo' ≤ lo) (h2 : hi ≤ hi') : NodeAt w lo' hi' b t := by
 induction h with
 | mk ks cs b kv a cap ps hlo hhi hbox hk hlen hcap hat hkids ih =>
   exact .mk ks cs b kv a cap ps (by omega) (by omega) hbox (hk.widen h1 h2) hlen hcap (hat.widen h1 h2) ih
theorem NodeAt.same {w w' : World} {lo hi b : Nat} {t : Tr} (h : NodeAt w lo hi b t) (hb : ∀ k, lo ≤ k → k < hi → w'.heap[k]? = w.heap[k]?) : NodeAt w' lo hi b t := by
 induction h with
 | mk ks cs b kv a cap ps hlo hhi hbox hk hlen hcap hat hkids ih =>
   exact .mk ks cs b kv a cap ps hlo hhi ((hb b hlo hhi).trans hbox) (hk.same hb) hlen hcap (hat.same hb) ih
theorem NodeIn.nodeAt {w : World} {lo hi b : Nat} {t : Tr} (h : NodeIn w lo hi b t) : NodeAt w lo hi b t := by
 induction h with
 | mk ks cs lo hi b kv a cap ps s hlo hhi hs0 hsn hs hbox hk hlen hcap hat hkids ih =>
   refine .mk ks cs b kv a cap ps hlo hhi hbox hk hlen hcap hat (fun i hi' => (ih i hi').widen ?_ ?_)
   · have := steps_le hs 0 i (by omega) (by omega); omega
   · have := steps_le hs (i + 1) cs.length (by omega) (by omega); omega
structure Stop (w : World) (lo hi b : Nat) (t : Tr) (kv : Value) (a : Option Addr) (cap : Nat) : Prop where
 node : NodeAt w lo hi b t
 box : w.heap[b]? = some (.cells #[kv, .slice a t.cs.length cap] 110 (0, 0))
 keys : IntsR w lo hi kv t.ks
 low : lo ≤ b
 high : b < hi
 fits : t.cs.length ≤ cap
 cap : cap ≤ maxLen
 well : Tr.Well t
 light : t.weight ≤ 1048576
inductive WayIn (w : World) (lo hi : Nat) (c : Int) : Nat → Tr → List (Nat × Tr) → Prop where
 | leaf (b : Nat) (t : Tr) (kv : Value) (a : Option Addr) (cap : Nat) (hs : Stop w lo hi b t kv a cap) (h0 : t.cs.length = 0) : WayIn w lo hi c b t [(b, t)]
 | inner (b : Nat) (t : Tr) (kv : Value) (qb qo cap p : Nat) (u : Tr) (xs : List (Nat × Tr)) (hs : Stop w lo hi b t kv (some ⟨qb, qo, none⟩) cap) (h0 : t.cs.length = t.ks.length + 1)
     (q1 : lo ≤ qb) (q2 : qb < hi) (hp : w.cell? ⟨qb, qo + place c t.ks, none⟩ = some (.pointer (some ⟨p, 0, none⟩))) (hr : WayIn w lo hi c p u xs) : WayIn w lo hi c b t ((b, t) :: xs)
theorem WayIn.widen {w : World} {lo hi lo' hi' b : Nat} {c : Int} {t : Tr} {xs : List (Nat × Tr)} (h : WayIn w lo hi c b t xs) (h1 : lo' ≤ lo) (h2 : hi ≤ hi') : WayIn w lo' hi' c b t xs := by
 have hst : ∀ {b t kv a cap}, Stop w lo hi b t kv a cap → Stop w lo' hi' b t kv a cap := fun s =>
   ⟨s.node.widen h1 h2, s.box, s.keys.widen h1 h2, by have := s.low; omega, by have := s.high; omega, s.fits, s.cap, s.well, s.light⟩
 induction h with
 | leaf b t kv a cap hs h0 => exact .leaf b t kv a cap (hst hs) h0
 | inner b t kv qb qo cap p u xs hs h0 q1 q2 hp hr ih => exact .inner b t kv qb qo cap p u xs (hst hs) h0 (by omega) (by omega) hp ih
theorem way_at {w : World} {lo hi b : Nat} {t : Tr} (c : Int) (h : NodeAt w lo hi b t) : Tr.Well t → t.weight ≤ 1048576 → ∃ xs, xs.map Prod.snd = t.way c ∧ WayIn w lo hi c b t xs := by
 induction h with
 | mk ks cs b kv a cap ps hlo hhi hbox hk hlen hcap hat hkids ih =>
   intro hw hwt
   have hst : Stop w lo hi b (.mk ks cs) kv a cap := ⟨.mk ks cs b kv a cap ps hlo hhi hbox hk hlen hcap hat hkids, hbox, hk, hlo, hhi, hlen, hcap, hw, hwt⟩
   by_cases hc : cs.length = 0
   · exact ⟨[(b, .mk ks cs)], by rw [Tr.way_leaf hc]; rfl, .leaf b _ kv a cap hst hc⟩
   · have hcl := Tr.Well.inner hw hc
     have hp := place_le c ks
     have hi' : place c ks < cs.length := by omega
     have hwk := Tr.weight_get_le cs _ hi'
     simp only [Tr.weight] at hwt
     obtain ⟨xs, h1, h2⟩ := ih _ hi' (Tr.Well.kid hw _ hi') (by omega)
     rcases hat with h | ⟨qb, qo, rfl, q1, q2, q3⟩
     · exact absurd h hc
     exact ⟨(b, .mk ks cs) :: xs, by rw [Tr.way_inner hi', List.map_cons, h1], .inner b _ kv qb qo cap _ _ xs hst hcl q1 q2 (q3 _ hi') h2⟩
theorem WayIn.stops {w : World} {lo hi b : Nat} {c : Int} {t : Tr} {xs : List (Nat × Tr)} (h : WayIn w lo hi c b t xs) : ∀ x ∈ xs, ∃ kv a cap, Stop w lo hi x.1 x.2 kv a cap := by
 induction h with
 | leaf b t kv a cap hs h0 => intro x hx; simp at hx; subst hx; exact ⟨_, _, _, hs⟩
 | inner b t kv qb qo cap p u xs hs h0 q1 q2 hp hr ih =>
   intro x hx
   rcases List.mem_cons.1 hx with rfl | hx
   · exact ⟨_, _, _, hs⟩
   · exact ih x hx
def wayEnc (c : Int) (x : Nat × Tr) : Array Value := #[.pointer (some ⟨x.1, 0, none⟩), .int .i64 (place c x.2.ks)]
end Go.Proofs.YticfkfjijnfcbaaDoor
/- The model's CursorValid. -/
namespace Go.Proofs.YticfkfjijnfcbaaDoor
open Go.RowKit
def Tr.curB (t : Tr) (ks : List Int) (a : Int) : Bool :=
 match Tr.nodeTo ks t with
 | some (.mk k _) => t.someB && inB a 0 ((k.length : Int) - 1)
 | none => false
set_option maxHeartbeats 2000000 in
set_option maxRecDepth 100000 in
theorem specCursorValid_c {w : World} {B : Nat} {kv cv v : Value} {t : Tr} {ks : List Int} (ht : TreeIn w B kv cv t) (hw : t.weight ≤ 1048576) (hk : IntsIn w B v ks) (a : Int) (w' : World) (hbw : Below B w w') (hB : B ≤ w'.heap.size) :
   Calls Tryd.prog 75 #[.agg #[kv, cv], .agg #[v, .int .i64 a]] w' fun e w'' => e = .returned (.bool (Tr.curB t ks a)) ∧ Below w'.heap.size w' w'' := by
 have HT := Lib.hid ht
 have HK := Lib.hid hk
 obtain ⟨g1, g2, g3, g4, g5, g6, rfl, rfl⟩ := ht.slices
 obtain ⟨va, vcap, rfl, -⟩ := hk
 obtain ⟨W2, hW2⟩ : ∃ W2, W2 = (w'.alloc (.cells #[.slice g1 g2 g3, .slice g4 g5 g6] 33)).alloc (.cells #[.slice va ks.length vcap, .int .i64 a] 28) := ⟨_, rfl⟩
 have hb2 : Below w'.heap.size w' W2 := by rw [hW2]; exact ((Below.refl _ _).alloc (Nat.le_refl _) _).alloc (by simp) _
 have hs2 : W2.heap.size = w'.heap.size + 2 := by rw [hW2]; simp
 have k0 : W2.heap[w'.heap.size]? = some (.cells #[.slice g1 g2 g3, .slice g4 g5 g6] 33 (0, 0)) := by rw [hW2, old_blk _ _ _ (by simp), new_blk]
 have k1 : W2.heap[w'.heap.size + 1]? = some (.cells #[.slice va ks.length vcap, .int .i64 a] 28 (0, 0)) := by
   rw [hW2, show w'.heap.size + 1 = (w'.alloc (.cells #[.slice g1 g2 g3, .slice g4 g5 g6] 33)).heap.size by simp, new_blk]
 have BOX : Hid (∀ wx : World, Below W2.heap.size W2 wx → wx.heap[w'.heap.size]? = some (.cells #[.slice g1 g2 g3, .slice g4 g5 g6] 33 (0, 0)) ∧ wx.heap[w'.heap.size + 1]? = some (.cells #[.slice va ks.length vcap, .int .i64 a] 28 (0, 0))) :=
   Lib.hid (fun wx hx => ⟨(hx.block _ (by omega)).trans k0, (hx.block _ (by omega)).trans k1⟩)
 have k0x := k0
 have k1x := k1
 rw [hW2] at k0x k1x
 obtain ⟨x1, x2, x3, x4⟩ := box2 k0x
 obtain ⟨y1, y2, y3, y4⟩ := box2 k1x
 have hlt2 : w'.heap.size < W2.heap.size := by omega
 have HB2 := Lib.hid (And.intro hb2 (hbw.trans (hb2.mono hB)))
 have HW2 := Lib.hid hW2
 have HS2 := Lib.hid hs2
 clear ht hbw hW2 hb2 k0 k1 k0x k1x hs2
 go_enter Tryd.func75, Tryd.ntmps75
 go_wp2_with fail
 rw [← HW2.out]
 refine (l8Node_c HT.out HK.out W2 HB2.out.2 (by omega)).mono ?_
 rintro e w3 ⟨hnode, hb3⟩
 have hs3 := hb3.size
 clear x1 x2 x3 x4 y1 y2 y3 y4
 obtain ⟨x1, x2, x3, x4⟩ := box2 (BOX.out w3 hb3).1
 obtain ⟨y1, y2, y3, y4⟩ := box2 (BOX.out w3 hb3).2
 rcases hnode with ⟨⟨uk, uc⟩, ku, cu, hn, rfl, hu⟩ | ⟨hn, rfl⟩
 case inr =>
   have HE := Lib.hid (show Tr.curB t ks a = false by unfold Tr.curB; rw [hn])
   have H3 := Lib.hid (HB2.out.1.trans (((hb3.alloc (Nat.le_trans (Nat.le_refl _) hs3) (.cells #[.slice none 0 0, .slice none 0 0] 33))).mono (by omega)))
   clear hn hb3
   go_wp2_with fail
   go_ret
   exact ⟨by rw [HE.out]; rfl, H3.out⟩
 case inl =>
   obtain ⟨ca, ccap, kvs, cvs, rfl, hik, -, -, -, -⟩ := hu.parts
   obtain ⟨ua, ucap, rfl, hu1, hu2, -⟩ := hik
   unfold maxLen at hu2
   have hul : uk.length ≤ 9223372036854775807 := by omega
   obtain ⟨W4, hW4⟩ : ∃ W4, W4 = w3.alloc (.cells #[.slice ua uk.length ucap, .slice ca uc.length ccap] 33) := ⟨_, rfl⟩
   have hs4 : w3.heap.size < W4.heap.size := by rw [hW4]; simp
   have hb4 : Below w3.heap.size w3 W4 := by rw [hW4]; exact (Below.refl _ _).alloc (Nat.le_refl _) _
   have hx4 : W4.heap[w3.heap.size]? = some (.cells #[.slice ua uk.length ucap, .slice ca uc.length ccap] 33 (0, 0)) := by rw [hW4, new_blk]
   have hb24 : Below W2.heap.size W2 W4 := hb3.trans (hb4.mono hs3)
   obtain ⟨⟨z1, z2, z3, z4⟩, z5, z6, z7, z8⟩ := (⟨box2 (BOX.out W4 hb24).1, box2 (BOX.out W4 hb24).2⟩ : _ ∧ _)
   rw [hW4] at z1 z2 z3 z4 z5 z6 z7 z8
   have HL2 := Lib.hid (l2Valid_c HT.out hw W4 (HB2.out.2.trans (hb24.mono (by omega))) (by omega))
   have H4 := Lib.hid (And.intro hb24 hx4)
   have HW4 := Lib.hid hW4
   have HN := Lib.hid hn
   clear hn hu hb3 hW4 hb4 hx4 hb24
   go_wp2_with fail
   rw [← HW4.out]
   refine HL2.out.mono ?_
   rintro e w5 ⟨rfl, hb5⟩
   have hs5 := hb5.size
   have hx5 := (hb5.block w3.heap.size (by omega)).trans H4.out.2
   have hb25 := H4.out.1.trans (hb5.mono H4.out.1.size)
   clear x1 x2 x3 x4 y1 y2 y3 y4 z1 z2 z3 z4 z5 z6 z7 z8
   obtain ⟨y1, y2, y3, y4⟩ := box2 (BOX.out w5 hb25).2
   obtain ⟨x1, x2, x3, x4⟩ := box2 hx5
   have H5 := Lib.hid (HB2.out.1.trans (hb25.mono (by omega)))
   cases hsb : t.someB with
   | false =>
     have HE := Lib.hid (show Tr.curB t ks a = false by unfold Tr.curB; rw [HN.out]; simp [hsb])
     clear hb5 hx5 hb25 hsb
     go_wp2_with fail
     go_ret
     exact ⟨by rw [HE.out]; rfl, H5.out⟩
   | true =>
     have HE := Lib.hid (show Tr.curB t ks a = inB a 0 ((uk.length : Int) - 1) by unfold Tr.curB; rw [HN.out]; simp [hsb])
     clear hb5 hx5 hb25 hsb
     go_wp2_with fail
     refine (l1In_c a 0 _ _).mono ?_
     rintro e w6 ⟨rfl, hw6⟩
     subst hw6
     obtain ⟨r, hr⟩ : ∃ r, r = inB a 0 ((uk.length : Int) - 1) := ⟨_, rfl⟩
     rw [← hr] at HE ⊢
     clear hr
     cases r <;> (go_wp2_with fail; go_ret; exact ⟨by rw [HE.out]; rfl, H5.out⟩)
end Go.Proofs.YticfkfjijnfcbaaDoor

/- The contract of splitKid. -/
import Derived.Test.YtananonjomfpkaaQf21
namespace Go.Proofs.Ytananonjomfpkaa
open Go.RowKit
theorem KeptF.block' {F : Cells} {w w' : World} (h : KeptF F w w') {b : Nat} {o : Obj} (hb : w.heap[b]? = some o) (hn : ∀ q, ¬ F b q) : w'.heap[b]? = some o :=
 (h.block b (Array.getElem?_eq_some_iff.1 hb).1 hn).trans hb
theorem split_sep {n0 n1 n2 b : Nat} {Fk Fc F1 F5 FL FR : Cells} {pre post : List KidD} {x : KidD} {pl pr : Nat} {tl tr : Tr} (hs : Sep b Fk Fc (pre ++ x :: post))
   (hb : b < n0) (lk : ∀ q r, Fk q r → q < n0) (lc : ∀ q r, Fc q r → q < n0) (ly : ∀ y, y ∈ pre ++ x :: post → ∀ q r, y.F q r → q < n0)
   (hL : ∀ q r, FL q r → x.F q r ∨ n0 ≤ q) (hR : ∀ q r, FR q r → x.F q r ∨ n0 ≤ q) (hLR : Apart FL FR) (lL : ∀ q r, FL q r → q < n1) (lR : ∀ q r, FR q r → q < n1) (hn1 : n0 ≤ n1) (hn2 : n1 ≤ n2)
   (h1 : ∀ q r, F1 q r → Fk q r ∨ n1 ≤ q) (l1 : ∀ q r, F1 q r → q < n2) (h5 : ∀ q r, F5 q r → Fc q r ∨ n2 ≤ q) :
   Sep b F1 F5 (pre ++ ⟨pl, FL, tl⟩ :: ⟨pr, FR, tr⟩ :: post) := by
 have mx : x ∈ pre ++ x :: post := by simp
 have mp : ∀ {y}, y ∈ pre → y ∈ pre ++ x :: post := fun h => by simp [h]
 have mq : ∀ {y}, y ∈ post → y ∈ pre ++ x :: post := fun h => by simp [h]
 have cases' : ∀ {P : KidD → Prop}, (∀ y, y ∈ pre ++ x :: post → P y) → P ⟨pl, FL, tl⟩ → P ⟨pr, FR, tr⟩ → ∀ y, y ∈ pre ++ ⟨pl, FL, tl⟩ :: ⟨pr, FR, tr⟩ :: post → P y := fun g1 g2 g3 y hy => by
   simp only [List.mem_append, List.mem_cons] at hy
   rcases hy with hy | rfl | rfl | hy
   · exact g1 y (mp hy)
   · exact g2
   · exact g3
   · exact g1 y (mq hy)
 refine ⟨?_, ?_, ?_, ?_, ?_, ?_, ?_⟩
 · intro q r h g
   rcases h1 _ _ g with g | g
   · exact hs.bk _ _ h g
   · have : q = b := h; omega
 · intro q r h g
   rcases h5 _ _ g with g | g
   · exact hs.bc _ _ h g
   · have : q = b := h; omega
 · refine cases' hs.bs (fun q r h g => ?_) (fun q r h g => ?_)
   · rcases hL _ _ g with g | g
     · exact hs.bs x mx _ _ h g
     · have : q = b := h; omega
   · rcases hR _ _ g with g | g
     · exact hs.bs x mx _ _ h g
     · have : q = b := h; omega
 · intro q r h g
   rcases h1 _ _ h with h' | h' <;> rcases h5 _ _ g with g' | g'
   · exact hs.kc _ _ h' g'
   · have := lk _ _ h'; omega
   · have := lc _ _ g'; omega
   · have := l1 _ _ h; omega
 · refine cases' (fun y hy q r h g => ?_) (fun q r h g => ?_) (fun q r h g => ?_)
   · rcases h1 _ _ h with h' | h'
     · exact hs.ks y hy _ _ h' g
     · have := ly y hy _ _ g; omega
   · rcases h1 _ _ h with h' | h'
     · rcases hL _ _ g with g' | g'
       · exact hs.ks x mx _ _ h' g'
       · have := lk _ _ h'; omega
     · have := lL _ _ g; omega
   · rcases h1 _ _ h with h' | h'
     · rcases hR _ _ g with g' | g'
       · exact hs.ks x mx _ _ h' g'
       · have := lk _ _ h'; omega
     · have := lR _ _ g; omega
 · refine cases' (fun y hy q r h g => ?_) (fun q r h g => ?_) (fun q r h g => ?_)
   · rcases h5 _ _ h with h' | h'
     · exact hs.cs y hy _ _ h' g
     · have := ly y hy _ _ g; omega
   · rcases h5 _ _ h with h' | h'
     · rcases hL _ _ g with g' | g'
       · exact hs.cs x mx _ _ h' g'
       · have := lc _ _ h'; omega
     · have := lL _ _ g; omega
   · rcases h5 _ _ h with h' | h'
     · rcases hR _ _ g with g' | g'
       · exact hs.cs x mx _ _ h' g'
       · have := lc _ _ h'; omega
     · have := lR _ _ g; omega
 · have h := hs.ss
   rw [List.pairwise_append, List.pairwise_cons] at h ⊢
   rw [List.pairwise_cons]
   obtain ⟨a1, ⟨a2, a3⟩, a4⟩ := h
   have fromL : ∀ {y}, y ∈ pre ++ x :: post → Apart x.F y.F → Apart FL y.F := fun hy ha q r h g => by
     rcases hL _ _ h with h' | h'
     · exact ha _ _ h' g
     · have := ly _ hy _ _ g; omega
   have fromR : ∀ {y}, y ∈ pre ++ x :: post → Apart x.F y.F → Apart FR y.F := fun hy ha q r h g => by
     rcases hR _ _ h with h' | h'
     · exact ha _ _ h' g
     · have := ly _ hy _ _ g; omega
   refine ⟨a1, ⟨?_, ?_, a3⟩, ?_⟩
   · intro y hy
     rcases List.mem_cons.1 hy with rfl | hy
     · exact hLR
     · exact fromL (mq hy) (a2 y hy)
   · intro y hy
     exact fromR (mq hy) (a2 y hy)
   · intro y hy z hz
     simp only [List.mem_cons] at hz
     rcases hz with rfl | rfl | hz
     · exact (fromL (mp hy) (a4 y hy x (by simp)).symm).symm
     · exact (fromR (mp hy) (a4 y hy x (by simp)).symm).symm
     · exact a4 y hy z (by simp [hz])
theorem putAt_mid {α : Type} (A B : List α) (l r : α) : putAt (A ++ l :: B) (A.length + 1) r = A ++ l :: r :: B := by
 unfold putAt
 rw [show A ++ l :: B = (A ++ [l]) ++ B by simp, List.take_left' (by simp), List.drop_left' (by simp)]
 simp
def Worked (w : World) (F : Cells) (b : Nat) (t : Tr) (e : Ending) (w' : World) : Prop :=
 ∃ F', e = .returned (.tuple #[]) ∧ Nd w' F' b t ∧ (∀ x o, F' x o → F x o ∨ w.heap.size ≤ x) ∧ KeptF F w w'
set_option maxRecDepth 100000 in
set_option maxHeartbeats 4000000 in
theorem splitKid_c (w : World) (F : Cells) (b : Nat) (k : List Int) (pre post : List KidD) (x : KidD) {Fk Fc : Cells} {kv cv : Value}
   (hbox : w.heap[b]? = some (.cells #[kv, cv] 99 (0, 0))) (hkr : RowF w Fk kv (k.map (Value.int .i64))) (hcr : RowF w Fc cv ((pre ++ x :: post).map KidD.ptr))
   (hkids : ∀ y, y ∈ pre ++ x :: post → Nd w y.F y.p y.t) (sb : ∀ o, F b o) (sk : ∀ q o, Fk q o → F q o) (sc : ∀ q o, Fc q o → F q o) (ss : ∀ y, y ∈ pre ++ x :: post → ∀ q o, y.F q o → F q o)
   (hs : Sep b Fk Fc (pre ++ x :: post)) (hk3 : 3 ≤ x.t.ks.length) (hxl : x.t.cs.length = 0 ∨ x.t.cs.length = x.t.ks.length + 1) (hik : pre.length ≤ k.length)
   (hn1 : x.t.ks.length ≤ 1048576) (hn2 : k.length ≤ 1048576) (hn3 : (pre ++ x :: post).length ≤ 1048576) :
   Calls Try.prog 148 #[.pointer (some ⟨b, 0, none⟩), .int .i64 pre.length] w
     (Worked w F b (Tr.splitKid k ((pre ++ x :: post).map KidD.t) pre.length x.t)) := by
 obtain ⟨i, hi⟩ : ∃ i, i = pre.length := ⟨_, rfl⟩
 rw [← hi] at hik ⊢
 obtain ⟨p, Fx, ⟨kx, cx⟩⟩ := x
 dsimp only [Tr.ks, Tr.cs] at hk3 hxl hn1
 have hlk := hkr.1
 have hlc := hcr.1
 have hblt := (Array.getElem?_eq_some_iff.1 hbox).1
 obtain ⟨_, ka, kcap, rfl, k1, k2, k3, k4⟩ := id hkr
 obtain ⟨_, ca, ccap, rfl, c1, c2, c3, c4⟩ := id hcr
 have hnx := hkids ⟨p, Fx, .mk kx cx⟩ (by simp)
 dsimp only at hnx
 obtain ⟨kidsx, Fkx, Fcx, kvx, cvx, hcx, hboxx, hkrx, hcrx, _, sbx, _⟩ := hnx.parts
 obtain ⟨_, kax, kcapx, rfl, kx1, kx2, kx3, kx4⟩ := id hkrx
 rcases c4 with c4 | ⟨cb, co, rfl, c5, c6⟩
 · rw [c4] at c1; simp at c1
 rcases kx4 with kx4 | ⟨kbx, kox, rfl, kx5, kx6⟩
 · rw [kx4] at kx1; simp at kx1; subst kx1; simp at hk3
 simp only [List.length_map] at hbox hboxx c1 k1 kx1
 have hlen : i < (pre ++ (⟨p, Fx, .mk kx cx⟩ : KidD) :: post).length := by simp; omega
 have hci : w.cell? ⟨cb, co + i, none⟩ = some (.pointer (some ⟨p, 0, none⟩)) := by
   rw [c6 i (by simpa using hlen)]
   simp [KidD.ptr, hi]
 obtain ⟨n, hnl⟩ : ∃ n, n = (pre ++ (⟨p, Fx, .mk kx cx⟩ : KidD) :: post).length := ⟨_, rfl⟩
 rw [← hnl] at hlen hbox c1 hn3
 unfold maxLen at k2 c2 kx2
 obtain ⟨m, hm⟩ : ∃ m, m = kx.length / 2 := ⟨_, rfl⟩
 obtain ⟨x1, x2, x3, x4⟩ := box2 hbox
 have HNX := Lib.hid hnx
 have HBOX := Lib.hid (And.intro hbox hboxx)
 have HR := Lib.hid (And.intro hkr (And.intro hcr hkrx))
 have HK := Lib.hid (And.intro hkids (And.intro sb (And.intro sk (And.intro sc (And.intro ss hs)))))
 have HKX := Lib.hid kx6
 have HL := Lib.hid (And.intro hlk hlc)
 have HI := Lib.hid (And.intro hi hnl)
 have HM := Lib.hid hm
 have HXL := Lib.hid hxl
 clear hlk hlc hkr hcr hkids sb sk sc ss hs hnx hboxx hkrx hcrx sbx kx5 kx6 c5 c6 hi hnl hm hxl k4 hcx hbox
 go_enter Try.func148, Try.ntmps148
 go_wp2_with fail
 refine (halves_c w Fx p kx cx HNX.out hk3 HXL.out hn1).mono ?_
 rintro e w1 ⟨pl, pr, FL, FR, rfl, hL, hR, hLR, fL, fR, hb1⟩
 have hs1 := hb1.size
 have hb1x := (hb1.block b hblt).trans HBOX.out.1
 have hp1x := (hb1.block p (Array.getElem?_eq_some_iff.1 HBOX.out.2).1).trans HBOX.out.2
 obtain ⟨kidsL, FkL, FcL, kvL, cvL, hcL, hboxL, hkrL, _⟩ := (show Nd w1 FL pl (.mk (kx.take m) (cx.take (m + 1))) by rw [HM.out]; exact hL).parts
 obtain ⟨_, kaL, kcapL, rfl, kL1, kL2, kL3, _⟩ := id hkrL
 have hlL : ((kx.take m).map (Value.int .i64)).length = m := by have := HM.out; rw [List.length_map, List.length_take]; omega
 rw [hlL] at hboxL
 obtain ⟨mid, hmid⟩ : ∃ z, z = kx.getD m 0 := ⟨_, rfl⟩
 have hcm : w1.cell? ⟨kbx, kox + m, none⟩ = some (.int .i64 mid) := by
   have := HM.out
   rw [hb1.cell (p := ⟨kbx, kox + m, none⟩) (by have := HR.out.2.2.1; exact (World.block_lt_of_cell? w _ (HKX.out m (by simp; omega)))), HKX.out m (by simp; omega)]
   rw [hmid]
   simp [show m < kx.length by omega]
 have hm2 : m < kx.length := by have := HM.out; omega
 clear x1 x2 x3 x4
 obtain ⟨x1, x2, x3, x4⟩ := box2 hb1x
 obtain ⟨y1, y2, y3, y4⟩ := box2 hp1x
 obtain ⟨z1, z2, z3, z4⟩ := box2 hboxL
 have hkp1 : KeptF (fun _ _ => False) w w1 := KeptF.of_below hb1 (Nat.le_refl _)
 have hkr1 : RowF w1 Fk (.slice ka k.length kcap) (k.map (Value.int .i64)) := by
   have := HR.out.1.keep hkp1 (fun _ _ _ h => h)
   rwa [List.length_map] at this
 have HKR1 := Lib.hid hkr1
 have H1 := Lib.hid (And.intro hb1 (And.intro hb1x (And.intro hL (And.intro hR (And.intro hLR (And.intro fL fR))))))
 have HMID := Lib.hid hmid
 clear hmid hb1 hb1x hp1x hL hR hLR fL fR hboxL hkrL hcL hkp1 hkr1 kL1 kL2 kL3 hlL
 have HLN := Lib.hid (show (putAt (k.map (Value.int .i64)) i (.int .i64 mid)).length = k.length + 1 by rw [putAt_length (by simpa using hik), List.length_map])
 go_upto_region 2 with (fail)
 go_cut [] from 19 to 43 (fun wc => ∃ (va : Option Addr) (vc : Nat) (F1 : Cells), wc.heap[b]? = some (.cells #[.slice va (k.length + 1) vc, .slice (some ⟨cb, co, none⟩) n ccap] 99 (0, 0)) ∧
     RowF wc F1 (.slice va (k.length + 1) vc) (putAt (k.map (Value.int .i64)) i (.int .i64 mid)) ∧ (∀ q r, F1 q r → Fk q r ∨ w1.heap.size ≤ q) ∧ KeptF (fun q r => q = b ∨ Fk q r) w1 wc)
 case first =>
   go_region_with (go_at_call 147; refine (putInts_c _ Fk _ _ i mid (HKR1.out.keep (KeptF.drew (fun _ _ => False) w1) (fun _ _ _ h => h)) (by simpa using hik) (ints_oneCell .i64 k) (by simpa using hn2)).mono ?_; rintro e w2 ⟨v2, F2, rfl, hr2, hF2, hk2⟩; obtain ⟨va2, vc2, rfl⟩ := hr2.shown; have hln2 := HLN.out; rw [hln2] at hr2; have hb2 := hk2.block' H1.out.2.1 (fun q h => HK.out.2.2.2.2.2.bk b q rfl h); obtain ⟨t1, t2, t3, t4⟩ := box2 hb2; have H2 := Lib.hid (And.intro hr2 (And.intro hF2 (And.intro hk2 hb2))); clear hr2 hF2 hk2 hb2 hln2)
   all_goals (
     go_wp2_with fail
     go_meet
     rw [HLN.out]
     refine ⟨va2, vc2, F2, set_blk (o := 0) _ H2.out.2.2.2, H2.out.1.keep (KeptF.setCell (F := boxOf b) _ _ _ _ rfl) (fun q r h g => ?_), H2.out.2.1, ((KeptF.drew _ w1).trans ((H2.out.2.2.1.mono (fun _ _ _ h => .inr h)).mono (fun _ _ _ h => .inl h))).trans (KeptF.setCell _ _ _ _ (.inl (.inl rfl)))⟩
     have g' : q = b := g
     rcases H2.out.2.1 _ _ h with h | h
     · exact HK.out.2.2.2.2.2.bk _ _ g h
     · have := hs1; have e : w1.drew.heap.size = w1.heap.size := rfl; omega)
 case rest =>
   obtain ⟨va, vc, F1, hb2, hr2, hF1, hk2⟩ := hcut
   have hsc := hk2.size
   have hs := HK.out.2.2.2.2.2
   have hkp1 : KeptF (fun _ _ => False) w w1 := KeptF.of_below H1.out.1 (Nat.le_refl _)
   have hcr2 : RowF wc Fc (.slice (some ⟨cb, co, none⟩) n ccap) ((pre ++ (⟨p, Fx, .mk kx cx⟩ : KidD) :: post).map KidD.ptr) := by
     have h := (HR.out.2.1.keep hkp1 (fun _ _ _ h => h)).keep hk2 (fun q r h g => g.elim (fun e => hs.bc q r e h) (fun g => hs.kc _ _ g h))
     rwa [List.length_map, ← HI.out.2] at h
   obtain ⟨-, -, -, q3, q4⟩ := hcr2.cells_of (by omega)
   obtain ⟨r1, r2, r3⟩ := q3 i (by omega)
   obtain ⟨u0, hu0⟩ := Option.isSome_iff_exists.1 r2
   obtain ⟨x1, x2, x3, x4⟩ := box2 hb2
   obtain ⟨W4, hW4⟩ : ∃ W4, W4 = wc.setCell ⟨cb, co + i, none⟩ (.pointer (some ⟨pl, 0, none⟩)) := ⟨_, rfl⟩
   have hs4 : W4.heap.size = wc.heap.size := by rw [hW4]; simp
   have hk4 : KeptF Fc wc W4 := by rw [hW4]; exact KeptF.setCell _ _ _ _ r1
   have hr4 : RowF W4 Fc (.slice (some ⟨cb, co, none⟩) n ccap) ((pre ++ (⟨pl, FL, (Tr.mk kx cx).leftOf⟩ : KidD) :: post).map KidD.ptr) := by
     have h := hcr2.splice (by omega) i [.pointer (some ⟨pl, 0, none⟩)] (by rw [List.length_map, ← HI.out.2]; simp; omega)
     rw [hW4]
     have e : ((pre ++ (⟨p, Fx, .mk kx cx⟩ : KidD) :: post).map KidD.ptr).take i ++ [Value.pointer (some ⟨pl, 0, none⟩)] ++ ((pre ++ (⟨p, Fx, .mk kx cx⟩ : KidD) :: post).map KidD.ptr).drop (i + [Value.pointer (some ⟨pl, 0, none⟩)].length) = (pre ++ (⟨pl, FL, (Tr.mk kx cx).leftOf⟩ : KidD) :: post).map KidD.ptr := by
       rw [HI.out.1]
       simp [KidD.ptr, List.drop_append]
     rw [e] at h
     exact h
   have hb4 := hk4.block' hb2 (fun q h => hs.bc b q rfl h)
   obtain ⟨y1', y2', y3', y4'⟩ := box2 hb4
   have HW4 := Lib.hid hW4
   have HR4 := Lib.hid hr4
   have H4 := Lib.hid (And.intro hb2 (And.intro hr2 (And.intro hF1 (And.intro hk2 (And.intro hk4 (And.intro hb4 hs4))))))
   have hwr : IntKind.i64.wrap ((i : Int) + 1) = (i : Int) + 1 := IntWalk.i64_in _ (by omega)
   have HHS := Lib.hid hs
   clear hb2 hr2 hF1 hk2 hs hkp1 hcr2 q3 q4 r1 r2 hW4 hk4 hr4 hb4 hs4
   go_upto_region 4 with (fail)
   rw [← HW4.out]
   clear x1 x2 x3 x4 hu0 r3
   go_wp2_with fail
   refine (putPtrs_c W4 Fc _ _ (i + 1) pr HR4.out (by rw [List.length_map]; have := HI.out.2; simp at this ⊢; omega) (fun y hy => by obtain ⟨z, _, rfl⟩ := List.mem_map.1 hy; rfl) (by rw [List.length_map]; have := HI.out.2; simp at this ⊢; omega)).mono ?_
   rintro e w5 ⟨v5, F5, rfl, hr5, hF5, hk5⟩
   have hb5 := hk5.block' H4.out.2.2.2.2.2.1 (fun q h => HHS.out.bc b q rfl h)
   obtain ⟨va5, vc5, rfl⟩ := hr5.shown
   obtain ⟨m1, m2, m3, m4⟩ := box2 hb5
   have H5 := Lib.hid (And.intro hr5 (And.intro hF5 (And.intro hk5 hb5)))
   clear hr5 hF5 hk5 hb5 y1' y2' y3' y4'
   go_wp2_with fail
   have e5 : putAt ((pre ++ (⟨pl, FL, (Tr.mk kx cx).leftOf⟩ : KidD) :: post).map KidD.ptr) (i + 1) (.pointer (some ⟨pr, 0, none⟩)) = (pre ++ (⟨pl, FL, (Tr.mk kx cx).leftOf⟩ : KidD) :: ⟨pr, FR, (Tr.mk kx cx).rightOf⟩ :: post).map KidD.ptr := by
     have h := putAt_mid (pre.map KidD.ptr) (post.map KidD.ptr) (KidD.ptr ⟨pl, FL, (Tr.mk kx cx).leftOf⟩) (.pointer (some ⟨pr, 0, none⟩))
     rw [List.length_map, ← HI.out.1] at h
     simpa [KidD.ptr] using h
   have hr5 := H5.out.1
   rw [e5] at hr5
   rw [show putAt (List.map KidD.ptr pre ++ KidD.ptr ⟨pl, FL, (Tr.mk kx cx).leftOf⟩ :: List.map KidD.ptr post) (i + 1) (.pointer (some ⟨pr, 0, none⟩)) = (pre ++ (⟨pl, FL, (Tr.mk kx cx).leftOf⟩ : KidD) :: ⟨pr, FR, (Tr.mk kx cx).rightOf⟩ :: post).map KidD.ptr from (by rw [List.map_append, List.map_cons] at e5; exact e5)]
   obtain ⟨kids', hkids'⟩ : ∃ kids', kids' = pre ++ (⟨pl, FL, (Tr.mk kx cx).leftOf⟩ : KidD) :: ⟨pr, FR, (Tr.mk kx cx).rightOf⟩ :: post := ⟨_, rfl⟩
   rw [← hkids'] at hr5 ⊢
   obtain ⟨hkids, sb, sk, sc, ss, _⟩ := HK.out
   have hs := HHS.out
   obtain ⟨hb1, _, hL, hR, hLR, fL, fR⟩ := H1.out
   obtain ⟨hb2, hr2, hF1, hk2, hk4, hb4, hs4⟩ := H4.out
   obtain ⟨_, hF5, hk5, hb5⟩ := H5.out
   have hlk := HL.out.1
   have hlc := HL.out.2
   have hs5 := hk5.size
   have mx : (⟨p, Fx, .mk kx cx⟩ : KidD) ∈ pre ++ (⟨p, Fx, .mk kx cx⟩ : KidD) :: post := by simp
   obtain ⟨W6, hW6⟩ : ∃ W6, W6 = w5.setCell ⟨b, 1, none⟩ (.slice va5 (kids'.map KidD.ptr).length vc5) := ⟨_, rfl⟩
   rw [← hW6]
   have hk6 : KeptF (boxOf b) w5 W6 := by rw [hW6]; exact KeptF.setCell _ _ _ _ rfl
   have hb6 : W6.heap[b]? = some (.cells #[.slice va (k.length + 1) vc, .slice va5 (kids'.map KidD.ptr).length vc5] 99 (0, 0)) := by rw [hW6]; exact set_blk (o := 1) _ hb5
   -- all that has turned behind w1
   have hF5' : ∀ q r, F5 q r → Fc q r ∨ wc.heap.size ≤ q := fun q r h => (hF5 q r h).imp id (fun h => by omega)
   have hkt : KeptF (fun q r => q = b ∨ Fk q r ∨ Fc q r) w1 W6 := by
     have a1 := hk2.mono (G := fun q r => q = b ∨ Fk q r ∨ Fc q r) (fun _ _ _ h => h.imp id .inl)
     have a2 := a1.trans (hk4.mono (fun _ _ _ h => .inl (.inr (.inr h))))
     have a3 := a2.trans (hk5.mono (fun _ _ _ h => .inl (.inr (.inr h))))
     exact a3.trans (hk6.mono (fun _ _ _ h => .inl (.inl h)))
   have hkp1 : KeptF (fun _ _ => False) w w1 := KeptF.of_below hb1 (Nat.le_refl _)
   have apX : ∀ {G : Cells}, (∀ q r, G q r → Fx q r ∨ w.heap.size ≤ q) → Apart G (fun q r => q = b ∨ Fk q r ∨ Fc q r) := fun hG q r h g => by
     rcases hG q r h with h' | h'
     · rcases g with g | g | g
       · exact hs.bs _ mx q r g h'
       · exact hs.ks _ mx q r g h'
       · exact hs.cs _ mx q r g h'
     · rcases g with g | g | g
       · omega
       · have := hlk q r g; omega
       · have := hlc q r g; omega
   have apO : ∀ y, y ∈ pre ++ (⟨p, Fx, .mk kx cx⟩ : KidD) :: post → Apart y.F (fun q r => q = b ∨ Fk q r ∨ Fc q r) := fun y hy q r h g => by
     rcases g with g | g | g
     · exact hs.bs y hy q r g h
     · exact hs.ks y hy q r g h
     · exact hs.cs y hy q r g h
   have hsep : Sep b F1 F5 kids' := by
     rw [hkids']
     exact split_sep hs hblt hlk hlc (fun y hy => (hkids y hy).lt) fL fR hLR hL.lt hR.lt hs1 hsc hF1 hr2.1 hF5'
   have hall : ∀ y, y ∈ kids' → Nd W6 y.F y.p y.t ∧ (∀ q r, y.F q r → F q r ∨ w.heap.size ≤ q) := fun y hy => by
     rw [hkids'] at hy
     simp only [List.mem_append, List.mem_cons] at hy
     have old : y ∈ pre ++ (⟨p, Fx, .mk kx cx⟩ : KidD) :: post → Nd W6 y.F y.p y.t ∧ (∀ q r, y.F q r → F q r ∨ w.heap.size ≤ q) := fun hy => ⟨((hkids y hy).keep hkp1 (fun _ _ _ h => h)).keep hkt (apO y hy), fun q r h => .inl (ss y hy q r h)⟩
     rcases hy with hy | rfl | rfl | hy
     · exact old (by simp [hy])
     · exact ⟨hL.keep hkt (apX fL), fun q r h => (fL q r h).imp (ss _ mx q r) id⟩
     · exact ⟨hR.keep hkt (apX fR), fun q r h => (fR q r h).imp (ss _ mx q r) id⟩
     · exact old (by simp [hy])
   have hrk : RowF W6 F1 (.slice va (k.length + 1) vc) ((putAt k i mid).map (Value.int .i64)) := by
     rw [putAt_map]
     have apF1 : ∀ q r, F1 q r → Fc q r → False := fun q r h g => by
       rcases hF1 q r h with h' | h'
       · exact hs.kc _ _ h' g
       · have := hlc q r g; omega
     refine ((hr2.keep hk4 apF1).keep hk5 apF1).keep hk6 (fun q r h g => ?_)
     have g' : q = b := g
     rcases hF1 q r h with h' | h'
     · exact hs.bk _ _ g h'
     · omega
   have hrc : RowF W6 F5 (.slice va5 (kids'.map KidD.ptr).length vc5) (kids'.map KidD.ptr) := by
     refine hr5.keep hk6 (fun q r h g => ?_)
     have g' : q = b := g
     rcases hF5' q r h with h' | h'
     · exact hs.bc _ _ g h'
     · omega
   have hnd := Nd.intro hb6 hrk hrc (fun y hy => (hall y hy).1) hsep
   have etree : Tr.mk (putAt k i mid) (kids'.map KidD.t) = Tr.splitKid k (List.map KidD.t (pre ++ (⟨p, Fx, .mk kx cx⟩ : KidD) :: post)) i (Tr.mk kx cx) := by
     rw [hkids', Tr.splitKid, HI.out.1]
     have : (Tr.mk kx cx).midOf = mid := by rw [Tr.midOf, HMID.out, HM.out]
     rw [this]
     congr 1
     simp [List.drop_append]
   rw [etree] at hnd
   refine bodyPost_end (v := .tuple #[]) (by simp [results, Try.results148, go_sem]) rfl ⟨_, rfl, hnd, ?_, ?_⟩
   · rintro q r (h | h | h | ⟨y, hy, h⟩)
     · subst h; exact .inl (sb r)
     · exact (hF1 q r h).imp (sk q r) (fun h => by omega)
     · exact (hF5' q r h).imp (sc q r) (fun h => by omega)
     · exact (hall y hy).2 q r h
   · refine (KeptF.of_below hb1 (Nat.le_refl _)).trans (hkt.mono (fun q r _ h => .inl ?_))
     rcases h with h | h | h
     · subst h; exact sb r
     · exact sk q r h
     · exact sc q r h
end Go.Proofs.Ytananonjomfpkaa

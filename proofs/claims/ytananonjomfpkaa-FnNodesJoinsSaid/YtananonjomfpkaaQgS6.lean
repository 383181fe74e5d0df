/- The contract of borrowFromBehind. -/
import Derived.Test.YtananonjomfpkaaQg17
namespace Go.Proofs.Ytananonjomfpkaa
open Go.RowKit
def Tr.oneMore (a b : List Tr) : List Tr := if b.length = 0 then a else a ++ [Tr.kidAt b 0]
set_option maxRecDepth 100000 in
set_option maxHeartbeats 4000000 in
theorem borrowBehind_c (w : World) (F : Cells) (b : Nat) (k : List Int) (pre post : List KidD) (x y : KidD) {Fk Fc : Cells} {kv cv : Value}
   (hbox : w.heap[b]? = some (.cells #[kv, cv] 99 (0, 0))) (hkr : RowF w Fk kv (k.map (Value.int .i64))) (hcr : RowF w Fc cv ((pre ++ x :: y :: post).map KidD.ptr))
   (hkids : ∀ z, z ∈ pre ++ x :: y :: post → Nd w z.F z.p z.t) (sb : ∀ o, F b o) (sk : ∀ q o, Fk q o → F q o) (sc : ∀ q o, Fc q o → F q o) (ss : ∀ z, z ∈ pre ++ x :: y :: post → ∀ q o, z.F q o → F q o)
   (hs : Sep b Fk Fc (pre ++ x :: y :: post)) (hik : pre.length < k.length) (hy1 : 0 < y.t.ks.length)
   (hn1 : x.t.ks.length ≤ 100000) (hm1 : y.t.ks.length ≤ 100000) (hx2 : x.t.cs.length ≤ 100000) (hy2 : y.t.cs.length ≤ 100000) (hn2 : k.length ≤ 100000) (hn3 : (pre ++ x :: y :: post).length ≤ 100000) :
   Calls Try.prog 161 #[.pointer (some ⟨b, 0, none⟩), .int .i64 pre.length] w
     (Worked w F b (.mk (k.set pre.length (y.t.ks.getD 0 0)) (pre.map KidD.t ++ .mk (x.t.ks ++ [k.getD pre.length 0]) (Tr.oneMore x.t.cs y.t.cs) :: .mk (y.t.ks.drop 1) (y.t.cs.drop 1) :: post.map KidD.t))) := by
 obtain ⟨i, hi⟩ : ∃ i, i = pre.length := ⟨_, rfl⟩
 rw [← hi] at hik ⊢
 obtain ⟨p, Fx, ⟨kx, cx⟩⟩ := x
 obtain ⟨q, Fy, ⟨ky, cy⟩⟩ := y
 dsimp only [Tr.ks, Tr.cs] at hn1 hm1 hx2 hy2 hy1 ⊢
 have hlk := hkr.1
 have hlc := hcr.1
 have hblt := (Array.getElem?_eq_some_iff.1 hbox).1
 obtain ⟨_, ka, kcap, rfl, k1, k2, k3, k4⟩ := id hkr
 obtain ⟨_, ca, ccap, rfl, c1, c2, c3, c4⟩ := id hcr
 have mx : (⟨p, Fx, .mk kx cx⟩ : KidD) ∈ pre ++ (⟨p, Fx, .mk kx cx⟩ : KidD) :: ⟨q, Fy, .mk ky cy⟩ :: post := by simp
 have my : (⟨q, Fy, .mk ky cy⟩ : KidD) ∈ pre ++ (⟨p, Fx, .mk kx cx⟩ : KidD) :: ⟨q, Fy, .mk ky cy⟩ :: post := by simp
 have hnx := hkids _ mx
 have hny := hkids _ my
 dsimp only at hnx hny
 obtain ⟨kidsx, Fkx, Fcx, kvx, cvx, hcx, hboxx, hkrx, hcrx, hkx, sbx, skx, scx, ssx, apx, ltx⟩ := hnx.parts
 obtain ⟨kidsy, Fky, Fcy, kvy, cvy, hcy, hboxy, hkry, hcry, hky, sby, sky, scy, ssy, apy, lty⟩ := hny.parts
 obtain ⟨_, kax, kcapx, rfl, kx1, kx2, kx3, kx4⟩ := id hkrx
 obtain ⟨_, kay, kcapy, rfl, ky1, ky2, ky3, ky4⟩ := id hkry
 obtain ⟨_, cax, ccapx, rfl, cx1, cx2, cx3, cx4⟩ := id hcrx
 obtain ⟨_, cay, ccapy, rfl, cy1, cy2, cy3, cy4⟩ := id hcry
 rcases c4 with c4 | ⟨cb, co, rfl, c5, c6⟩
 · rw [c4] at c1; simp at c1
 rcases k4 with k4 | ⟨kb, ko, rfl, k5, k6⟩
 · rw [k4] at k1; simp at k1; subst k1; simp at hik
 rcases ky4 with ky4 | ⟨yb, yo, rfl, y5, y6⟩
 · rw [ky4] at ky1; simp at ky1; subst ky1; simp at hy1
 simp only [List.length_map] at hbox k1 c1 hboxx hboxy kx1 ky1 cx1 cy1
 obtain ⟨n, hnl⟩ : ∃ n, n = (pre ++ (⟨p, Fx, .mk kx cx⟩ : KidD) :: ⟨q, Fy, .mk ky cy⟩ :: post).length := ⟨_, rfl⟩
 rw [← hnl] at hbox c1 hn3
 have hlen : i + 1 < n := by rw [hnl]; simp; omega
 have hci : w.cell? ⟨cb, co + i, none⟩ = some (.pointer (some ⟨p, 0, none⟩)) := by
   rw [c6 i (by rw [List.length_map, ← hnl]; omega)]
   simp [KidD.ptr, hi]
 have hcj : w.cell? ⟨cb, co + (i + 1), none⟩ = some (.pointer (some ⟨q, 0, none⟩)) := by
   rw [c6 (i + 1) (by rw [List.length_map, ← hnl]; omega)]
   simp [KidD.ptr, hi, List.getElem_append_right]
 obtain ⟨mid, hmid⟩ : ∃ z, z = k.getD i 0 := ⟨_, rfl⟩
 obtain ⟨top, htop⟩ : ∃ z, z = ky.getD 0 0 := ⟨_, rfl⟩
 have hck : w.cell? ⟨kb, ko + i, none⟩ = some (.int .i64 mid) := by
   rw [k6 i (by simpa using hik), hmid]
   simp [hik]
 have hcy0 : w.cell? ⟨yb, yo, none⟩ = some (.int .i64 top) := by
   have h := y6 0 (by simpa using hy1)
   rw [Nat.add_zero] at h
   rw [h, htop]
   simp [hy1]
 rw [← hmid, ← htop]
 obtain ⟨CX, hCX⟩ : ∃ CX, CX = Tr.oneMore cx cy := ⟨_, rfl⟩
 obtain ⟨KY, hKY⟩ : ∃ KY, KY = ky.drop 1 := ⟨_, rfl⟩
 obtain ⟨CY, hCY⟩ : ∃ CY, CY = cy.drop 1 := ⟨_, rfl⟩
 rw [← hCX, ← hKY, ← hCY]
 have HT := Lib.hid (And.intro hCX (And.intro hKY hCY))
 clear hCX hKY hCY
 have hsx := sep_iff.1 apx
 have hsy := sep_iff.1 apy
 have hxy : Apart Fx Fy := by
   have h := hs.ss
   rw [List.pairwise_append, List.pairwise_cons] at h
   exact h.2.1.1 ⟨q, Fy, .mk ky cy⟩ (by simp)
 have hcl := lt_of_there (c5 i (by omega)).2.1
 have hkl := lt_of_there (k5 i (by omega)).2.1
 have hpl := (Array.getElem?_eq_some_iff.1 hboxx).1
 have hql := (Array.getElem?_eq_some_iff.1 hboxy).1
 obtain ⟨kf1, kf2, kf3⟩ := k5 i (by omega)
 have hkbp : kb ≠ p := fun e => hs.ks _ mx _ _ kf1 (e ▸ sbx (ko + i))
 have hkbq : kb ≠ q := fun e => hs.ks _ my _ _ kf1 (e ▸ sby (ko + i))
 have hkbb : kb ≠ b := fun e => hs.bk b (ko + i) rfl (e ▸ kf1)
 have hbp : b ≠ p := fun e => hs.bs _ mx b 0 rfl (e ▸ sbx 0)
 have hbq : b ≠ q := fun e => hs.bs _ my b 0 rfl (e ▸ sby 0)
 have hpq : p ≠ q := fun e => hxy p 0 (sbx 0) (e ▸ sby 0)
 have hyk : (⟨kb, ko + i, none⟩ : Addr) ≠ ⟨yb, yo, none⟩ := fun e => by
   simp only [Addr.mk.injEq, and_true] at e
   obtain ⟨e1, e2⟩ := e
   have h := (y5 0 (by omega)).1
   rw [Nat.add_zero, ← e1, ← e2] at h
   exact hs.ks _ my _ _ kf1 (sky _ _ h)
 have hdr : ∀ {G : Cells} {v : Value} {xs : List Value}, RowF w G v xs → RowF w.drew G v xs := fun h => h.keep (KeptF.drew (fun _ _ => False) w) (fun _ _ _ h => h)
 obtain ⟨i0, hi0, hz0, hz1, hz2⟩ := info_parts Try.appInfo
 obtain ⟨i9, hi9, hy0, hyy1, hyy2⟩ := info_parts Try.infoPtr
 have HIN := Lib.hid (And.intro hi0 (And.intro hz0 (And.intro hz1 hz2)))
 have HIP := Lib.hid (And.intro hi9 (And.intro hy0 (And.intro hyy1 hyy2)))
 have HX := Lib.hid (And.intro hcx (And.intro hkx (And.intro sbx (And.intro skx (And.intro scx (And.intro ssx hsx))))))
 have HY := Lib.hid (And.intro hcy (And.intro hky (And.intro sby (And.intro sky (And.intro scy (And.intro ssy hsy))))))
 have hkrx0 := hdr hkrx
 have hkry0 := hdr hkry
 have hcrx0 := hdr hcrx
 have hcry0 := hdr hcry
 have hkr0 := hdr hkr
 have hcr0 := hdr hcr
 simp only [List.length_map] at hkrx0 hkry0 hcrx0 hcry0 hkr0 hcr0
 rw [← hnl] at hcr0
 obtain ⟨w0, hw0⟩ : ∃ w0, w0 = w.drew := ⟨_, rfl⟩
 rw [← hw0] at hkrx0 hkry0 hcrx0 hcry0 hkr0 hcr0
 have hs0 : w0.heap.size = w.heap.size := by rw [hw0]; rfl
 have hkp0 : KeptF (fun _ _ => False) w w0 := by rw [hw0]; exact KeptF.drew _ _
 have HR := Lib.hid (And.intro hkrx0 (And.intro hcrx0 (And.intro hkry0 (And.intro hcry0 (And.intro hkr0 hcr0)))))
 have HB := Lib.hid (And.intro (hkp0.block' hbox (fun _ h => h)) (And.intro (hkp0.block' hboxx (fun _ h => h)) (And.intro (hkp0.block' hboxy (fun _ h => h)) (And.intro hkp0 hs0))))
 have HC0 := Lib.hid (And.intro ((hkp0.cell _ _ hkl (fun h => h)).trans hck) (And.intro ((hkp0.cell yb yo (World.block_lt_of_cell? w _ hcy0) (fun h => h)).trans hcy0) (And.intro ((hkp0.frozen _ _ hkl).trans kf3) (And.intro kf1 (And.intro hyk (y5 0 (by omega)).1)))))
 have HK := Lib.hid (And.intro hkids (And.intro sb (And.intro sk (And.intro sc (And.intro ss hs)))))
 have HL := Lib.hid (And.intro hlk hlc)
 have HI := Lib.hid (And.intro hi hnl)
 have HMX := Lib.hid (And.intro mx my)
 have HXY := Lib.hid hxy
 have hin : (i : Int) < (n : Int) := by omega
 have hin2 : (i : Int) + 1 < (n : Int) := by omega
 have hin3 : ((i + 1 : Nat) : Int) < (n : Int) := by omega
 have hiK : (i : Int) < (k.length : Int) := by omega
 have hi0' : (0 : Int) ≤ (i : Int) := by omega
 have hi1' : (0 : Int) ≤ (i : Int) + 1 := by omega
 have hyl : (0 : Int) < (ky.length : Int) := by omega
 have hwr : IntKind.i64.wrap ((i : Int) + 1) = (i : Int) + 1 := IntWalk.i64_in _ (by omega)
 obtain ⟨x1, x2, x3, x4⟩ := box2 hbox
 have HW0 := Lib.hid hw0
 clear hdr hcx hkx sbx skx scx ssx apx hcy hky sby sky scy ssy apy hnx hny hbox hboxx hboxy hkr hcr hkids sb sk sc ss hs hlk hlc hi hnl mx my hkrx hcrx hkry hcry ltx lty c5 c6 k5 k6 k3 c3 hmid htop y5 y6 kx3 kx4 cx3 cx4 cy3 cy4 ky3 hsx hsy hxy hck hcy0 kf1 kf2 kf3 hyk hkrx0 hkry0 hcrx0 hcry0 hkr0 hcr0 hkp0 hw0 hi0 hz0 hz1 hz2 hi9 hy0 hyy1 hyy2 hs0
 unfold maxLen at k2 c2 kx2 ky2 cx2 cy2
 go_enter Try.func161, Try.ntmps161
 go_upto_region 0 with (fail)
 go_region_held3 (fun x => x.cell? ⟨b, 1, none⟩ = some (.slice (some ⟨cb, co, none⟩) n ccap) ∧ x.cell? ⟨cb, co + i, none⟩ = some (.pointer (some ⟨p, 0, none⟩)) ∧ x.cell? ⟨cb, co + (i + 1), none⟩ = some (.pointer (some ⟨q, 0, none⟩)))
   (first | exact ⟨x2, hci, hcj⟩ | go_keep) (fail)
 rw [← HW0.out]
 clear x1 x2 x3 x4 hci hcj
 obtain ⟨x1, x2, x3, x4⟩ := box2 HB.out.1
 obtain ⟨y1, y2, y3, y4⟩ := box2 HB.out.2.1
 have ck := HC0.out.1
 go_upto_region 1 with (fail)
 go_cut [] from 21 to 39 (fun wc => ∃ (b1 o1 m1 : Nat) (F1 : Cells), wc.heap[p]? = some (.cells #[.slice (some ⟨b1, o1, none⟩) (kx.length + 1) m1, .slice cax kidsx.length ccapx] 99 (0, 0)) ∧
     RowF wc F1 (.slice (some ⟨b1, o1, none⟩) (kx.length + 1) m1) ((kx ++ [mid]).map (Value.int .i64)) ∧ (∀ q r, F1 q r → Fkx q r ∨ w0.heap.size ≤ q) ∧ KeptF (fun q r => q = p ∨ Fkx q r) w0 wc)
 case first =>
   have HKX := Lib.hid (show ∀ W, KeptF (fun _ _ => False) w0 W → RowF W Fkx (.slice kax kx.length kcapx) (kx.map (Value.int .i64)) from fun W h => HR.out.1.keep h (fun _ _ _ h => h))
   have hne1 : (w0.alloc (.cells #[.int .i64 mid] 3)).cell? ⟨p, 0, none⟩ = some (.slice kax kx.length kcapx) := by rw [World.cell?_of_block (w := w0) (a := ⟨p, 0, none⟩) (old_blk _ _ _ (Array.getElem?_eq_some_iff.1 HB.out.2.1).1)]; exact y1
   have hne2 : (w0.alloc (.cells #[.int .i64 mid] 3)).drew.cell? ⟨p, 0, none⟩ = some (.slice kax kx.length kcapx) := hne1
   have HPB := Lib.hid (show ∀ wb w1, KeptF (fun _ _ => False) w0 wb → KeptF Fkx wb w1 → w1.heap[p]? = some (.cells #[.slice kax kx.length kcapx, .slice cax kidsx.length ccapx] 99 (0, 0)) ∧ KeptF Fkx w0 w1 from fun wb w1 h h' =>
     ⟨h'.block' (h.block' HB.out.2.1 (fun _ e => e)) (fun r e => HX.out.2.2.2.2.2.2.bk p r rfl e), (h.mono (fun _ _ _ e => e.elim)).trans (h'.mono (fun _ _ _ e => .inl e))⟩)
   go_region_law
     (first
       | ((refine step_append_row (by rfl) (.tmp 26) (.tmp 35) 23 (by rfl) 3 i0 _ 8 Try.underlying23 HIN.out.1 HIN.out.2.1 HIN.out.2.2.1 HIN.out.2.2.2 rfl Fkx (.slice kax kx.length kcapx) (kx.map (Value.int .i64)) (by rfl) (HKX.out _ (by exact (KeptF.alloc _ w0 _).trans (KeptF.drew _ _))) w0.heap.size 0 1 (.int .i64 mid) (by rfl) (by exact (box1 (new_blk w0 _)).1) rfl (by unfold maxLen; simp; omega) (by simp; omega) ?_; intro b1 o1 m1 F1 w1 hm1 hr1 hF1 hk1; have hpb := HPB.out _ _ (by exact (KeptF.alloc _ w0 _).trans (KeptF.drew _ _)) hk1; obtain ⟨r1, r2, r3, r4⟩ := box2 hpb.1; have H1 := Lib.hid (And.intro hm1 (And.intro hr1 (And.intro hF1 hpb))); clear hm1 hr1 hF1 hk1 hpb))
       | fail)
   all_goals (
     go_wp2_with fail
     go_meet
     have hl1 : (kx.map (Value.int .i64)).length = kx.length := by simp
     have hr1 := H1.out.2.1
     have hbF := hr1.1
     rw [hl1, ← List.map_singleton (f := Value.int .i64), ← List.map_append] at hr1
     have hF1 := H1.out.2.2.1
     have hpl' : p < w0.heap.size := (Array.getElem?_eq_some_iff.1 HB.out.2.1).1
     refine ⟨b1, o1, m1, F1, set_blk (o := 0) _ H1.out.2.2.2.1, hr1.keep (KeptF.setCell (F := boxOf p) _ _ _ _ rfl) (fun q' r a e => ?_), fun q' r a => (hF1 q' r a).imp id (fun a => by simp at a; omega), (H1.out.2.2.2.2.mono (fun _ _ _ e => .inr e)).trans (KeptF.setCell _ _ _ _ (.inl (.inl rfl)))⟩
     have e' : q' = p := e
     rcases hF1 q' r a with a | a
     · exact HX.out.2.2.2.2.2.2.bk q' r e a
     · simp at a; omega)
 case rest =>
   obtain ⟨b1, o1, m1, F1, hbp1, hr1, hF1, hk1⟩ := hcut
   have hs := HK.out.2.2.2.2.2
   have mx := HMX.out.1
   have my := HMX.out.2
   have hsc := hk1.size
   have hxF : ∀ q' r, Fkx q' r → Fx q' r := HX.out.2.2.2.1
   have hyF : ∀ q' r, Fky q' r → Fy q' r := HY.out.2.2.2.1
   have hyC : ∀ q' r, Fcy q' r → Fy q' r := HY.out.2.2.2.2.1
   have hxC : ∀ q' r, Fcx q' r → Fx q' r := HX.out.2.2.2.2.1
   have hpF := HX.out.2.2.1
   have hqF := HY.out.2.2.1
   have chF : ∀ q' r, (q' = p ∨ Fkx q' r) → Fx q' r := fun q' r h => h.elim (fun e => e ▸ hpF r) (hxF q' r)
   have hb1 := hk1.block' HB.out.1 (fun r e => hs.bs _ mx b r rfl (chF _ _ e))
   have hq1 := hk1.block' HB.out.2.2.1 (fun r e => HXY.out q r (chF _ _ e) (hqF r))
   have hr1k := HR.out.2.2.2.2.1.keep hk1 (fun q' r a e => hs.ks _ mx q' r a (chF _ _ e))
   have hr1c := HR.out.2.2.2.2.2.keep hk1 (fun q' r a e => hs.cs _ mx q' r a (chF _ _ e))
   have hr1cx := HR.out.2.1.keep hk1 (fun q' r a e => e.elim (fun e => HX.out.2.2.2.2.2.2.bc q' r e a) (fun e => HX.out.2.2.2.2.2.2.kc q' r e a))
   have hr1ky := HR.out.2.2.1.keep hk1 (fun q' r a e => HXY.out q' r (chF _ _ e) (hyF _ _ a))
   have hr1cy := HR.out.2.2.2.1.keep hk1 (fun q' r a e => HXY.out q' r (chF _ _ e) (hyC _ _ a))
   have ck1 : wc.cell? ⟨kb, ko + i, none⟩ = some (.int .i64 mid) := (hk1.cell _ _ (World.block_lt_of_cell? w0 _ HC0.out.1) (fun e => hs.ks _ mx _ _ HC0.out.2.2.2.1 (chF _ _ e))).trans HC0.out.1
   have cf1 : wc.frozen? ⟨kb, ko + i, none⟩ = false := (hk1.frozen _ _ (World.block_lt_of_cell? w0 _ HC0.out.1)).trans HC0.out.2.2.1
   have cy1' : wc.cell? ⟨yb, yo, none⟩ = some (.int .i64 top) := (hk1.cell _ _ (World.block_lt_of_cell? w0 _ HC0.out.2.1) (fun e => HXY.out _ _ (chF _ _ e) (hyF _ _ (by have := HC0.out.2.2.2.2.2; rwa [Nat.add_zero] at this)))).trans HC0.out.2.1
   have hyk := HC0.out.2.2.2.2.1
   obtain ⟨W2, hW2⟩ : ∃ W2, W2 = (wc.setCell ⟨kb, ko + i, none⟩ (.int .i64 top)).drew := ⟨_, rfl⟩
   have hset := (hr1k.set i (.int .i64 top) (by simpa using hik)).keep (KeptF.drew (fun _ _ => False) _) (fun _ _ _ h => h)
   rw [← hW2] at hset
   have hk2 : KeptF Fk wc W2 := by rw [hW2]; exact (KeptF.setCell _ _ _ _ HC0.out.2.2.2.1).trans (KeptF.drew _ _)
   have hs2 : W2.heap.size = wc.heap.size := by rw [hW2]; simp
   have hb2 := hk2.block' hb1 (fun r e => hs.bk b r rfl e)
   have hq2 := hk2.block' hq1 (fun r e => hs.ks _ my q r e (hqF r))
   have hp2 := hk2.block' hbp1 (fun r e => hs.ks _ mx p r e (hpF r))
   have hr2x := hr1.keep hk2 (fun q' r a e => (hF1 q' r a).elim (fun a => hs.ks _ mx q' r e (hxF _ _ a)) (fun a => by have := HL.out.1 q' r e; have := HB.out.2.2.2.2; omega))
   have hr2cx := hr1cx.keep hk2 (fun q' r a e => hs.ks _ mx q' r e (hxC _ _ a))
   have hr2ky := hr1ky.keep hk2 (fun q' r a e => hs.ks _ my q' r e (hyF _ _ a))
   have hr2cy := hr1cy.keep hk2 (fun q' r a e => hs.ks _ my q' r e (hyC _ _ a))
   have hr2c := hr1c.keep hk2 (fun q' r a e => hs.kc q' r e a)
   have H2 := Lib.hid (And.intro hk1 (And.intro hk2 (And.intro hs2 (And.intro hsc (And.intro hF1 (And.intro hb2 (And.intro hq2 hp2)))))))
   have HR2 := Lib.hid (And.intro hset (And.intro hr2x (And.intro hr2cx (And.intro hr2ky (And.intro hr2cy hr2c)))))
   have HT3 := Lib.hid (takeInts_c W2 Fky _ _ 0 hr2ky (by simpa using hy1) (ints_oneCell .i64 ky) (by simp; omega))
   have HW2 := Lib.hid hW2
   clear x1 x2 x3 x4 y1 y2 y3 y4 ck
   obtain ⟨x1, x2, x3, x4⟩ := box2 hb1
   obtain ⟨y1, y2, y3, y4⟩ := box2 hq1
   clear hW2 hset hk2 hs2 hb2 hq2 hp2 hr2x hr2cx hr2ky hr2cy hr2c hbp1 hr1 hF1 hk1 hb1 hq1 hr1k hr1c hr1cx hr1ky hr1cy hs mx my hsc hxF hyF hyC hxC hpF hqF chF
   go_upto_region 2 with (fail)
   go_region_held3 (fun x => x.cell? ⟨b, 0, none⟩ = some (.slice (some ⟨kb, ko, none⟩) k.length kcap) ∧ x.cell? ⟨q, 0, none⟩ = some (.slice (some ⟨yb, yo, none⟩) ky.length kcapy) ∧ x.cell? ⟨yb, yo, none⟩ = some (.int .i64 top))
     (first | exact ⟨x1, y1, cy1'⟩ | exact ⟨by go_keep, by go_keep, (World.cell?_setCell_other _ _ _ _ hyk).trans cy1'⟩ | go_keep) (fail)
   rw [← HW2.out]
   clear x1 x2 x3 x4 y1 y2 y3 y4 ck1 cf1 cy1' hyk
   obtain ⟨y1, y2, y3, y4⟩ := box2 H2.out.2.2.2.2.2.2.1
   go_wp2_with fail
   refine HT3.out.mono ?_
   rintro e w3 ⟨v3, rfl, hr3, hk3⟩
   obtain ⟨a3, m3, rfl⟩ := hr3.shown
   have hs3 := hk3.size
   have hq3 := hk3.block' H2.out.2.2.2.2.2.2.1 (fun r e => HY.out.2.2.2.2.2.2.bk q r rfl e)
   clear y1 y2 y3 y4
   obtain ⟨y1, y2, y3, y4⟩ := box2 hq3
   obtain ⟨L3, hL3⟩ : ∃ L3, L3 = (takeAt (ky.map (Value.int .i64)) 0).length := ⟨_, rfl⟩
   rw [← hL3] at hr3 ⊢
   obtain ⟨W4, hW4⟩ : ∃ W4, W4 = w3.setCell ⟨q, 0, none⟩ (.slice a3 L3 m3) := ⟨_, rfl⟩
   have hk34 : KeptF (boxOf q) w3 W4 := by rw [hW4]; exact KeptF.setCell _ _ _ _ rfl
   have hq4 : W4.heap[q]? = some (.cells #[.slice a3 L3 m3, .slice cay kidsy.length ccapy] 99 (0, 0)) := by rw [hW4]; exact set_blk (o := 0) _ hq3
   have hr4y := hr3.keep hk34 (fun q' r a e => HY.out.2.2.2.2.2.2.bk q' r e a)
   have hk4 : KeptF (fun q' r => q' = q ∨ Fky q' r) W2 W4 := (hk3.mono (fun _ _ _ e => .inr e)).trans (hk34.mono (fun _ _ _ e => .inl (.inl e)))
   have hs4 : W4.heap.size = w3.heap.size := by rw [hW4]; simp
   have HW4 := Lib.hid hW4
   have H4 := Lib.hid (And.intro hk4 (And.intro hq4 (And.intro hr4y (And.intro hL3 (And.intro hs3 hs4)))))
   clear hr3 hk3 hq3 hW4 hk34 hq4 hr4y hk4 hs4 hL3
   go_upto_region 4 with (fail)
   rw [← HW4.out]
   clear y1 y2 y3 y4
   obtain ⟨y1, y2, y3, y4⟩ := box2 H4.out.2.1
   have hs := HK.out.2.2.2.2.2
   have mx := HMX.out.1
   have my := HMX.out.2
   obtain ⟨CH, hCH⟩ : ∃ CH : Cells, CH = fun q' r => q' = p ∨ Fkx q' r ∨ Fcx q' r ∨ Fk q' r ∨ q' = q ∨ Fky q' r ∨ Fcy q' r := ⟨_, rfl⟩
   have chX : ∀ {q' r}, (q' = p ∨ Fkx q' r ∨ Fcx q' r) → Fx q' r := fun {q' r} h => h.elim (fun e => e ▸ HX.out.2.2.1 r) (fun h => h.elim (HX.out.2.2.2.1 q' r) (HX.out.2.2.2.2.1 q' r))
   have chY : ∀ {q' r}, (q' = q ∨ Fky q' r ∨ Fcy q' r) → Fy q' r := fun {q' r} h => h.elim (fun e => e ▸ HY.out.2.2.1 r) (fun h => h.elim (HY.out.2.2.2.1 q' r) (HY.out.2.2.2.2.1 q' r))
   have chS : ∀ {q' r}, CH q' r → Fx q' r ∨ Fk q' r ∨ Fy q' r := fun {q' r} h => by
     rw [hCH] at h
     rcases h with h | h | h | h | h | h | h
     · exact .inl (chX (.inl h))
     · exact .inl (chX (.inr (.inl h)))
     · exact .inl (chX (.inr (.inr h)))
     · exact .inr (.inl h)
     · exact .inr (.inr (chY (.inl h)))
     · exact .inr (.inr (chY (.inr (.inl h))))
     · exact .inr (.inr (chY (.inr (.inr h))))
   have APX : ∀ z, z ∈ kidsx → Apart z.F CH := fun z hz q' r a e => by
     have ax := HX.out.2.2.2.2.2.1 z hz q' r a
     rw [hCH] at e
     rcases e with e | e | e | e | e | e | e
     · exact HX.out.2.2.2.2.2.2.bs z hz q' r e a
     · exact HX.out.2.2.2.2.2.2.ks z hz q' r e a
     · exact HX.out.2.2.2.2.2.2.cs z hz q' r e a
     · exact hs.ks _ mx q' r e ax
     · exact HXY.out q' r ax (chY (.inl e))
     · exact HXY.out q' r ax (chY (.inr (.inl e)))
     · exact HXY.out q' r ax (chY (.inr (.inr e)))
   have APY : ∀ z, z ∈ kidsy → Apart z.F CH := fun z hz q' r a e => by
     have ay := HY.out.2.2.2.2.2.1 z hz q' r a
     rw [hCH] at e
     rcases e with e | e | e | e | e | e | e
     · exact HXY.out q' r (chX (.inl e)) ay
     · exact HXY.out q' r (chX (.inr (.inl e))) ay
     · exact HXY.out q' r (chX (.inr (.inr e))) ay
     · exact hs.ks _ my q' r e ay
     · exact HY.out.2.2.2.2.2.2.bs z hz q' r e a
     · exact HY.out.2.2.2.2.2.2.ks z hz q' r e a
     · exact HY.out.2.2.2.2.2.2.cs z hz q' r e a
   have APO : ∀ z, (z ∈ pre ∨ z ∈ post) → Apart z.F CH := fun z hz q' r a e => by
     have hss := hs.ss
     rw [List.pairwise_append, List.pairwise_cons, List.pairwise_cons] at hss
     have hm : z ∈ pre ++ (⟨p, Fx, .mk kx cx⟩ : KidD) :: ⟨q, Fy, .mk ky cy⟩ :: post := by rcases hz with hz | hz <;> simp [hz]
     rcases chS e with e | e | e
     · rcases hz with hz | hz
       · exact hss.2.2 z hz ⟨p, Fx, .mk kx cx⟩ (by simp) q' r a e
       · exact hss.2.1.1 z (by simp [hz]) q' r e a
     · exact hs.ks z hm q' r e a
     · rcases hz with hz | hz
       · exact hss.2.2 z hz ⟨q, Fy, .mk ky cy⟩ (by simp) q' r a e
       · exact hss.2.1.2.1 z hz q' r e a
   have hKT : KeptF CH w W4 := by
     have a0 := HB.out.2.2.2.1.mono (G := CH) (fun _ _ _ e => e.elim)
     have a1 := a0.trans (H2.out.1.mono (fun q' r _ e => .inl (by rw [hCH]; exact e.imp id .inl)))
     have a2 := a1.trans (H2.out.2.1.mono (fun q' r _ e => .inl (by rw [hCH]; exact .inr (.inr (.inr (.inl e))))))
     exact a2.trans (H4.out.1.mono (fun q' r _ e => .inl (by rw [hCH]; exact .inr (.inr (.inr (.inr (e.imp id .inl)))))))
   have hk4 := H4.out.1
   have c4F : ∀ {q' r}, (q' = q ∨ Fky q' r) → Fy q' r := fun h => chY (h.imp id .inl)
   have hb4 := hk4.block' H2.out.2.2.2.2.2.1 (fun r e => hs.bs _ my b r rfl (c4F e))
   have hp4 := hk4.block' H2.out.2.2.2.2.2.2.2 (fun r e => HXY.out p r (HX.out.2.2.1 r) (c4F e))
   have rk4 := HR2.out.1.keep hk4 (fun q' r a e => hs.ks _ my q' r a (c4F e))
   have rc4 := HR2.out.2.2.2.2.2.keep hk4 (fun q' r a e => hs.cs _ my q' r a (c4F e))
   have rx4 := HR2.out.2.1.keep hk4 (fun q' r a e => (H2.out.2.2.2.2.1 q' r a).elim (fun a => HXY.out q' r (HX.out.2.2.2.1 _ _ a) (c4F e)) (fun a => by have := (HK.out.1 _ my).lt q' r (c4F e); have := HB.out.2.2.2.2; omega))
   have rcx4 := HR2.out.2.2.1.keep hk4 (fun q' r a e => HXY.out q' r (HX.out.2.2.2.2.1 _ _ a) (c4F e))
   have rcy4 := HR2.out.2.2.2.2.1.keep hk4 (fun q' r a e => e.elim (fun e => HY.out.2.2.2.2.2.2.bc q' r e a) (fun e => HY.out.2.2.2.2.2.2.kc q' r e a))
   have HA := Lib.hid (And.intro hCH (And.intro (And.intro APX (And.intro APY APO)) (And.intro hKT (And.intro hb4 (And.intro hp4 (And.intro rk4 (And.intro rc4 (And.intro rx4 (And.intro rcx4 rcy4)))))))))
   clear hCH chX chY chS APX APY APO hKT hk4 c4F hb4 hp4 rk4 rc4 rx4 rcx4 rcy4 hs mx my
   have hkeep : ∀ (W : World), KeptF CH w W → (∀ z, z ∈ kidsx → Nd W z.F z.p z.t) ∧ (∀ z, z ∈ kidsy → Nd W z.F z.p z.t) ∧ (∀ z, (z ∈ pre ∨ z ∈ post) → Nd W z.F z.p z.t) := fun W h =>
     ⟨fun z hz => (HX.out.2.1 z hz).keep h (HA.out.2.1.1 z hz), fun z hz => (HY.out.2.1 z hz).keep h (HA.out.2.1.2.1 z hz), fun z hz => (HK.out.1 z (by rcases hz with hz | hz <;> simp [hz])).keep h (HA.out.2.1.2.2 z hz)⟩
   have hkF : ∀ (W : World), KeptF CH w W → KeptF F w W := fun W h => h.mono (fun q' r _ e => by
     rw [HA.out.1] at e
     rcases e with e | e | e | e | e | e | e
     · exact HK.out.2.2.2.2.1 _ HMX.out.1 q' r (e ▸ HX.out.2.2.1 r)
     · exact HK.out.2.2.2.2.1 _ HMX.out.1 q' r (HX.out.2.2.2.1 q' r e)
     · exact HK.out.2.2.2.2.1 _ HMX.out.1 q' r (HX.out.2.2.2.2.1 q' r e)
     · exact HK.out.2.2.1 q' r e
     · exact HK.out.2.2.2.2.1 _ HMX.out.2 q' r (e ▸ HY.out.2.2.1 r)
     · exact HK.out.2.2.2.2.1 _ HMX.out.2 q' r (HY.out.2.2.2.1 q' r e)
     · exact HK.out.2.2.2.2.1 _ HMX.out.2 q' r (HY.out.2.2.2.2.1 q' r e))
   have HKEEP := Lib.hid (And.intro hkeep hkF)
   have eky : takeAt (ky.map (Value.int .i64)) 0 = KY.map (Value.int .i64) := by rw [HT.out.2.1]; simp [takeAt]
   have HEK := Lib.hid eky
   have hw0 := HB.out.2.2.2.2
   have HF1 := Lib.hid (show ∀ q' r, F1 q' r → Fkx q' r ∨ w.heap.size ≤ q' from fun q' r a => (H2.out.2.2.2.2.1 q' r a).imp id (fun a => by omega))
   clear hkeep hkF eky hw0
   rcases kidsy with _ | ⟨z, zs⟩
   · have hcy0 : cy = [] := HY.out.1
     have hCXe : CX = cx := by rw [HT.out.1, hcy0]; rfl
     have hCYe : CY = [] := by rw [HT.out.2.2, hcy0]; rfl
     have HE := Lib.hid (And.intro hCXe hCYe)
     clear hcy0 hCXe hCYe
     go_wp2_with fail
     obtain ⟨hkx, hky, ho⟩ := HKEEP.out.1 W4 HA.out.2.2.1
     obtain ⟨-, -, hKT, hb4, hp4, rk4, rc4, rx4, rcx4, rcy4⟩ := HA.out
     have hs := HK.out.2.2.2.2.2
     have mx := HMX.out.1
     have my := HMX.out.2
     have lx := (HK.out.1 _ mx).lt
     have ly := (HK.out.1 _ my).lt
     have hsz4 := hKT.size
     have sepX : Sep p F1 Fcx kidsx := sep_rows (n0 := w.heap.size) (n1 := W4.heap.size) HX.out.2.2.2.2.2.2 hpl (fun q' r a => lx q' r (HX.out.2.2.2.1 q' r a)) (fun q' r a => lx q' r (HX.out.2.2.2.2.1 q' r a)) (fun z hz q' r a => lx q' r (HX.out.2.2.2.2.2.1 z hz q' r a)) hsz4 HF1.out rx4.1 (fun q' r a => .inl a)
     have nX := Nd.intro hp4 rx4 rcx4 hkx sepX
     have hr4 := H4.out.2.2.1
     have hq4 := H4.out.2.1
     rw [HEK.out] at hr4
     have nY := Nd.intro hq4 hr4 rcy4 hky HY.out.2.2.2.2.2.2
     rw [← HX.out.1] at nX
     have subX : ∀ q' r, allOf p F1 Fcx kidsx q' r → Fx q' r ∨ Fy q' r ∨ w.heap.size ≤ q' := allOf_sub (fun r => .inl (HX.out.2.2.1 r)) (fun q' r a => (HF1.out q' r a).elim (fun a => .inl (HX.out.2.2.2.1 q' r a)) (fun a => .inr (.inr a))) (fun q' r a => .inl (HX.out.2.2.2.2.1 q' r a)) (fun z hz q' r a => .inl (HX.out.2.2.2.2.2.1 z hz q' r a))
     have subY : ∀ q' r, allOf q Fky Fcy [] q' r → Fy q' r := allOf_sub (fun r => HY.out.2.2.1 r) (fun q' r a => HY.out.2.2.2.1 q' r a) (fun q' r a => HY.out.2.2.2.2.1 q' r a) (fun z hz => by simp at hz)
     have subX2 : ∀ q' r, allOf p F1 Fcx kidsx q' r → Fx q' r ∨ w.heap.size ≤ q' := allOf_sub (fun r => .inl (HX.out.2.2.1 r)) (fun q' r a => (HF1.out q' r a).imp (HX.out.2.2.2.1 q' r) id) (fun q' r a => .inl (HX.out.2.2.2.2.1 q' r a)) (fun z hz q' r a => .inl (HX.out.2.2.2.2.2.1 z hz q' r a))
     have rk' : RowF W4 Fk (.slice (some ⟨kb, ko, none⟩) k.length kcap) ((k.set i top).map (Value.int .i64)) := by rw [List.map_set]; exact rk4
     obtain ⟨F', hnd, hF'⟩ := two_above (w := w) (F := F) (px := p) (py := q) hs hblt HL.out.1 HL.out.2 (fun z hz => (HK.out.1 z hz).lt) HK.out.2.1 HK.out.2.2.1 HK.out.2.2.2.1 HK.out.2.2.2.2.1 hb4 rk' rc4 rfl rfl subX (fun q' r a => .inr (.inl (subY q' r a)))
       (fun q' r a e => (subX2 q' r a).elim (fun a => HXY.out q' r a (subY q' r e)) (fun a => by have := ly q' r (subY q' r e); omega)) nX nY ho
     refine bodyPost_end (v := .tuple #[]) (by simp [results, Try.results161, go_sem]) rfl ⟨F', rfl, ?_, hF', HKEEP.out.2 W4 hKT⟩
     rw [HE.out.1, HE.out.2]
     exact hnd
   · have hcyz : cy = z.t :: zs.map KidD.t := by rw [HY.out.1]; simp
     have hCXe : CX = cx ++ [z.t] := by rw [HT.out.1, hcyz]; simp [Tr.oneMore, Tr.kidAt]
     have hCYe : CY = zs.map KidD.t := by rw [HT.out.2.2, hcyz]; rfl
     have HE := Lib.hid (And.intro hCXe hCYe)
     have rcy4 := HA.out.2.2.2.2.2.2.2.2.2
     have hq4 := H4.out.2.1
     obtain ⟨zb, zo, rfl⟩ : ∃ b o, cay = some ⟨b, o, none⟩ := by
       obtain ⟨a, cap, hv, h1, _, h3⟩ := rcy4.read
       injection hv with e1 _ _
       obtain ⟨b, o, h4, _⟩ := h3 (by simp)
       exact ⟨b, o, e1.trans h4⟩
     have hcapz : 0 < ccapy := by simp at cy1; omega
     have hzc := rcy4.cells_of hcapz
     have cz4 : W4.cell? ⟨zb, zo, none⟩ = some (.pointer (some ⟨z.p, 0, none⟩)) := by
       have h := hzc.2.2.2.2 0 (by simp)
       rw [Nat.add_zero] at h
       rw [h]
       rfl
     obtain ⟨ZN, hZN⟩ : ∃ ZN, ZN = (z :: zs).length := ⟨_, rfl⟩
     have hZ0 : (0 : Int) < (ZN : Int) := by rw [hZN]; simp <;> omega
     rw [← hZN] at hq4
     have hp4 := HA.out.2.2.2.2.1
     clear y1 y2 y3 y4 hcyz hCXe hCYe hcapz hzc rcy4
     obtain ⟨y1, y2, y3, y4⟩ := box2 hq4
     obtain ⟨x1, x2, x3, x4⟩ := box2 hp4
     have HZN := Lib.hid hZN
     have HQ4 := Lib.hid (And.intro hq4 hp4)
     clear hZN hq4 hp4
     go_upto_region 5 with (fail)
     rw [show decide (0 < ZN) = true from decide_eq_true (by omega)]
     have hcl0 : ((kidsx.map KidD.ptr)).length = kidsx.length := by simp
     go_cut [] from 70 to 84 (fun wd => ∃ (b5 o5 m5 : Nat) (F2 : Cells), wd.heap[p]? = some (.cells #[.slice (some ⟨b1, o1, none⟩) (kx.length + 1) m1, .slice (some ⟨b5, o5, none⟩) (kidsx.length + 1) m5] 99 (0, 0)) ∧
         RowF wd F2 (.slice (some ⟨b5, o5, none⟩) (kidsx.length + 1) m5) ((kidsx ++ [z]).map KidD.ptr) ∧ (∀ q r, F2 q r → Fcx q r ∨ W4.heap.size ≤ q) ∧ KeptF (fun q r => q = p ∨ Fcx q r) W4 wd)
     case first =>
       have hplt := (Array.getElem?_eq_some_iff.1 HQ4.out.2).1
       have hqlt := (Array.getElem?_eq_some_iff.1 HQ4.out.1).1
       have hzlt := World.block_lt_of_cell? W4 _ cz4
       have hal : ∀ (u : Addr) (v : Value), u.block < W4.heap.size → W4.cell? u = some v → (W4.alloc (.cells #[.pointer (some ⟨z.p, 0, none⟩)] 70)).cell? u = some v := fun u v hu h => by rw [World.cell?_of_block (w := W4) (a := u) (old_blk _ _ _ hu)]; exact h
       have hne1 := hal ⟨p, 1, none⟩ _ hplt x2
       have hne2 := hal ⟨q, 1, none⟩ _ hqlt y2
       have hne3 := hal ⟨zb, zo, none⟩ _ hzlt cz4
       have HCX := Lib.hid (show ∀ W, KeptF (fun _ _ => False) W4 W → RowF W Fcx (.slice cax kidsx.length ccapx) (kidsx.map KidD.ptr) from fun W h => HA.out.2.2.2.2.2.2.2.2.1.keep h (fun _ _ _ h => h))
       have HPB := Lib.hid (show ∀ wb w1, KeptF (fun _ _ => False) W4 wb → KeptF Fcx wb w1 → w1.heap[p]? = some (.cells #[.slice (some ⟨b1, o1, none⟩) (kx.length + 1) m1, .slice cax kidsx.length ccapx] 99 (0, 0)) ∧ KeptF Fcx W4 w1 from fun wb w1 h h' =>
         ⟨h'.block' (h.block' HQ4.out.2 (fun _ e => e)) (fun r e => HX.out.2.2.2.2.2.2.bc p r rfl e), (h.mono (fun _ _ _ e => e.elim)).trans (h'.mono (fun _ _ _ e => .inl e))⟩)
       have hzp : KidD.ptr z = .pointer (some ⟨z.p, 0, none⟩) := rfl
       have HZP := Lib.hid hzp
       have HLX := Lib.hid (show kidsx.length ≤ 100000 by have h := HX.out.1; have := congrArg List.length h; simp at this; omega)
       clear hal hzp hcl0
       go_region_law
         (first
           | ((refine step_append_row (by rfl) (.tmp 74) (.tmp 81) 95 (by rfl) 70 i9 _ 8 Try.underlying95 HIP.out.1 HIP.out.2.1 HIP.out.2.2.1 HIP.out.2.2.2 rfl Fcx (.slice cax kidsx.length ccapx) (kidsx.map KidD.ptr) (by rfl) (HCX.out _ (by exact (KeptF.alloc _ W4 _).trans (KeptF.drew _ _))) W4.heap.size 0 1 (.pointer (some ⟨z.p, 0, none⟩)) (by rfl) (by exact (box1 (new_blk W4 _)).1) rfl (by have := HLX.out; unfold maxLen; simp; omega) (by have := HLX.out; simp; omega) ?_; intro b5 o5 m5 F2 w5 hm5 hr5 hF2 hk5; have hpb := HPB.out _ _ (by exact (KeptF.alloc _ W4 _).trans (KeptF.drew _ _)) hk5; obtain ⟨r1, r2, r3, r4⟩ := box2 hpb.1; have H5 := Lib.hid (And.intro hm5 (And.intro hr5 (And.intro hF2 hpb))); clear hm5 hr5 hF2 hk5 hpb))
           | fail)
       all_goals (
         go_wp2_with fail
         go_meet
         have hl1 : (kidsx.map KidD.ptr).length = kidsx.length := by simp
         have hr5 := H5.out.2.1
         rw [hl1, ← HZP.out, ← List.map_singleton (f := KidD.ptr), ← List.map_append] at hr5
         have hF2 := H5.out.2.2.1
         refine ⟨b5, o5, m5, F2, set_blk (o := 1) _ H5.out.2.2.2.1, hr5.keep (KeptF.setCell (F := boxOf p) _ _ _ _ rfl) (fun q' r a e => ?_), fun q' r a => (hF2 q' r a).imp id (fun a => by simp at a; omega), (H5.out.2.2.2.2.mono (fun _ _ _ e => .inr e)).trans (KeptF.setCell _ _ _ _ (.inl (.inl rfl)))⟩
         have e' : q' = p := e
         rcases hF2 q' r a with a | a
         · exact HX.out.2.2.2.2.2.2.bc q' r e a
         · simp at a; omega)
     case rest =>
       obtain ⟨b5, o5, m5, F2, hp5, hr5, hF2, hk5⟩ := hcut
       have hs := HK.out.2.2.2.2.2
       have mx := HMX.out.1
       have my := HMX.out.2
       obtain ⟨hCH, hAP, hKT, hb4, hp4, rk4, rc4, rx4, rcx4, rcy4⟩ := HA.out
       have c5F : ∀ {q' r}, (q' = p ∨ Fcx q' r) → Fx q' r := fun {q' r} h => h.elim (fun e => e ▸ HX.out.2.2.1 r) (HX.out.2.2.2.2.1 q' r)
       have hq5 := hk5.block' H4.out.2.1 (fun r e => HXY.out q r (c5F e) (HY.out.2.2.1 r))
       have hb5 := hk5.block' hb4 (fun r e => hs.bs _ mx b r rfl (c5F e))
       have rk5 := rk4.keep hk5 (fun q' r a e => hs.ks _ mx q' r a (c5F e))
       have rc5 := rc4.keep hk5 (fun q' r a e => hs.cs _ mx q' r a (c5F e))
       have rx5 := rx4.keep hk5 (fun q' r a e => (HF1.out q' r a).elim (fun a => e.elim (fun e => HX.out.2.2.2.2.2.2.bk q' r e a) (fun e => HX.out.2.2.2.2.2.2.kc q' r a e)) (fun a => by have := (HK.out.1 _ mx).lt q' r (c5F e); omega))
       have rky5 := H4.out.2.2.1.keep hk5 (fun q' r a e => HXY.out q' r (c5F e) (HY.out.2.2.2.1 q' r a))
       have rcy5 := rcy4.keep hk5 (fun q' r a e => HXY.out q' r (c5F e) (HY.out.2.2.2.2.1 q' r a))
       have hKT5 : KeptF CH w wc := hKT.trans (hk5.mono (fun q' r _ e => .inl (by rw [hCH]; exact e.elim .inl (fun e => .inr (.inr (.inl e))))))
       have hsd := hk5.size
       have hlz : ((z :: zs).map KidD.ptr).length = ZN := by rw [HZN.out]; simp
       have HT6 := Lib.hid (takePtrs_c wc Fcy _ _ 0 rcy5 (by simp) (fun u hu => by obtain ⟨v, _, rfl⟩ := List.mem_map.1 hu; rfl) (by have h := congrArg List.length HY.out.1; simp at h ⊢; omega))
       rw [← HZN.out] at HT6 hq5
       have H5 := Lib.hid (And.intro hp5 (And.intro hr5 (And.intro hF2 (And.intro hb5 (And.intro rk5 (And.intro rc5 (And.intro rx5 (And.intro rky5 (And.intro hKT5 hsd)))))))))
       have HQ5 := Lib.hid hq5
       clear y1 y2 y3 y4 x1 x2 x3 x4 cz4
       obtain ⟨y1, y2, y3, y4⟩ := box2 hq5
       clear hp5 hr5 hF2 hk5 hs mx my hCH hAP hKT hb4 hp4 rk4 rc4 rx4 rcx4 rcy4 c5F hq5 hb5 rk5 rc5 rx5 rky5 rcy5 hKT5 hsd hlz
       go_upto_region 6 with (fail)
       go_wp2_with fail
       refine HT6.out.mono ?_
       rintro e w6 ⟨v6, rfl, hr6, hk6⟩
       obtain ⟨a6, m6, rfl⟩ := hr6.shown
       have hq6 := hk6.block' HQ5.out (fun r e => HY.out.2.2.2.2.2.2.bc q r rfl e)
       clear y1 y2 y3 y4
       obtain ⟨y1, y2, y3, y4⟩ := box2 hq6
       have e6 : takeAt ((z :: zs).map KidD.ptr) 0 = zs.map KidD.ptr := by simp [takeAt]
       rw [e6] at hr6 ⊢
       obtain ⟨L6, hL6⟩ : ∃ L6, L6 = (zs.map KidD.ptr).length := ⟨_, rfl⟩
       rw [← hL6] at hr6 ⊢
       have H6 := Lib.hid (And.intro hr6 (And.intro hk6 hq6))
       clear hr6 hk6 hq6 hL6 e6
       go_wp2_with fail
       obtain ⟨W7, hW7⟩ : ∃ W7, W7 = w6.setCell ⟨q, 1, none⟩ (.slice a6 L6 m6) := ⟨_, rfl⟩
       rw [← hW7]
       have hk7 : KeptF (boxOf q) w6 W7 := by rw [hW7]; exact KeptF.setCell _ _ _ _ rfl
       have hq7 : W7.heap[q]? = some (.cells #[.slice a3 L3 m3, .slice a6 L6 m6] 99 (0, 0)) := by rw [hW7]; exact set_blk (o := 1) _ H6.out.2.2
       obtain ⟨hp5, hr5, hF2, hb5, rk5, rc5, rx5, rky5, hKT5, hsd⟩ := H5.out
       obtain ⟨hr6, hk6, hq6⟩ := H6.out
       have hCH := HA.out.1
       have hs := HK.out.2.2.2.2.2
       have mx := HMX.out.1
       have my := HMX.out.2
       have lx := (HK.out.1 _ mx).lt
       have ly := (HK.out.1 _ my).lt
       have hk57 : KeptF (fun q' r => q' = q ∨ Fcy q' r) wc W7 := (hk6.mono (fun _ _ _ e => .inr e)).trans (hk7.mono (fun _ _ _ e => .inl (.inl e)))
       have c7F : ∀ {q' r}, (q' = q ∨ Fcy q' r) → Fy q' r := fun {q' r} h => h.elim (fun e => e ▸ HY.out.2.2.1 r) (HY.out.2.2.2.2.1 q' r)
       have hKT7 : KeptF CH w W7 := hKT5.trans (hk57.mono (fun q' r _ e => .inl (by rw [hCH]; exact .inr (.inr (.inr (.inr (e.imp id .inr)))))))
       obtain ⟨hkx, hky, ho⟩ := HKEEP.out.1 W7 hKT7
       have hs7 := hKT7.size
       have hs4w := HA.out.2.2.1.size
       have hp7 := hk57.block' hp5 (fun r e => HXY.out p r (HX.out.2.2.1 r) (c7F e))
       have hb7 := hk57.block' hb5 (fun r e => hs.bs _ my b r rfl (c7F e))
       have rk7 := rk5.keep hk57 (fun q' r a e => hs.ks _ my q' r a (c7F e))
       have rc7 := rc5.keep hk57 (fun q' r a e => hs.cs _ my q' r a (c7F e))
       have F1y : ∀ q' r, F1 q' r → Fy q' r → False := fun q' r a e => (HF1.out q' r a).elim (fun a => HXY.out q' r (HX.out.2.2.2.1 q' r a) e) (fun a => by have := ly q' r e; omega)
       have F2y : ∀ q' r, F2 q' r → Fy q' r → False := fun q' r a e => (hF2 q' r a).elim (fun a => HXY.out q' r (HX.out.2.2.2.2.1 q' r a) e) (fun a => by have := ly q' r e; omega)
       have rx7 := rx5.keep hk57 (fun q' r a e => F1y q' r a (c7F e))
       have rcx7 := hr5.keep hk57 (fun q' r a e => F2y q' r a (c7F e))
       have rky7 := rky5.keep hk57 (fun q' r a e => e.elim (fun e => HY.out.2.2.2.2.2.2.bk q' r e a) (fun e => HY.out.2.2.2.2.2.2.kc q' r a e))
       have rcy7 := hr6.keep hk7 (fun q' r a e => HY.out.2.2.2.2.2.2.bc q' r e a)
       have mz : z ∈ z :: zs := by simp
       have zF := HY.out.2.2.2.2.2.1 z mz
       have sepX0 : Sep p F1 F2 kidsx := sep_rows (n0 := w.heap.size) (n1 := W4.heap.size) HX.out.2.2.2.2.2.2 hpl (fun q' r a => lx q' r (HX.out.2.2.2.1 q' r a)) (fun q' r a => lx q' r (HX.out.2.2.2.2.1 q' r a)) (fun y hy q' r a => lx q' r (HX.out.2.2.2.2.2.1 y hy q' r a)) hs4w HF1.out (HA.out.2.2.2.2.2.2.2.1).1 hF2
       have sepX : Sep p F1 F2 (kidsx ++ [z]) := sep_snoc sepX0 z (fun q' r a e => HXY.out q' r (by have a' : q' = p := a; rw [a']; exact HX.out.2.2.1 r) (zF q' r e)) (fun q' r a e => F1y q' r a (zF q' r e)) (fun q' r a e => F2y q' r a (zF q' r e))
         (fun y hy q' r a e => HXY.out q' r (HX.out.2.2.2.2.2.1 y hy q' r a) (zF q' r e))
       have nX := Nd.intro hp7 rx7 rcx7 (fun y hy => by
         rcases List.mem_append.1 hy with hy | hy
         · exact hkx y hy
         · simp at hy; subst hy; exact hky y mz) sepX
       rw [HEK.out] at rky7
       have sepY := sep_sub HY.out.2.2.2.2.2.2 (List.sublist_cons_self z zs)
       have nY := Nd.intro hq7 rky7 rcy7 (fun y hy => hky y (by simp [hy])) sepY
       have subX : ∀ q' r, allOf p F1 F2 (kidsx ++ [z]) q' r → Fx q' r ∨ Fy q' r ∨ w.heap.size ≤ q' := allOf_sub (fun r => .inl (HX.out.2.2.1 r)) (fun q' r a => (HF1.out q' r a).elim (fun a => .inl (HX.out.2.2.2.1 q' r a)) (fun a => .inr (.inr a)))
         (fun q' r a => (hF2 q' r a).elim (fun a => .inl (HX.out.2.2.2.2.1 q' r a)) (fun a => .inr (.inr (by omega)))) (fun y hy q' r a => by
         rcases List.mem_append.1 hy with hy | hy
         · exact .inl (HX.out.2.2.2.2.2.1 y hy q' r a)
         · simp at hy; subst hy; exact .inr (.inl (zF q' r a)))
       have subY : ∀ q' r, allOf q Fky Fcy zs q' r → Fy q' r := allOf_sub (fun r => HY.out.2.2.1 r) (fun q' r a => HY.out.2.2.2.1 q' r a) (fun q' r a => HY.out.2.2.2.2.1 q' r a) (fun y hy q' r a => HY.out.2.2.2.2.2.1 y (by simp [hy]) q' r a)
       have hcons := HY.out.2.2.2.2.2.2.ss
       rw [List.pairwise_cons] at hcons
       have apXY : Apart (allOf p F1 F2 (kidsx ++ [z])) (allOf q Fky Fcy zs) := fun q' r a e => by
         have ye := subY q' r e
         rcases a with a | a | a | ⟨y, hy, a⟩
         · exact HXY.out q' r (by subst a; exact HX.out.2.2.1 r) ye
         · exact F1y q' r a ye
         · exact F2y q' r a ye
         · rcases List.mem_append.1 hy with hy | hy
           · exact HXY.out q' r (HX.out.2.2.2.2.2.1 y hy q' r a) ye
           · simp at hy; subst hy
             rcases e with e | e | e | ⟨u, hu, e⟩
             · exact HY.out.2.2.2.2.2.2.bs y mz q' r e a
             · exact HY.out.2.2.2.2.2.2.ks y mz q' r e a
             · exact HY.out.2.2.2.2.2.2.cs y mz q' r e a
             · exact hcons.1 u hu q' r a e
       have rk' : RowF W7 Fk (.slice (some ⟨kb, ko, none⟩) k.length kcap) ((k.set i top).map (Value.int .i64)) := by rw [List.map_set]; exact rk7
       obtain ⟨F', hnd, hF'⟩ := two_above (w := w) (F := F) (px := p) (py := q) hs hblt HL.out.1 HL.out.2 (fun z hz => (HK.out.1 z hz).lt) HK.out.2.1 HK.out.2.2.1 HK.out.2.2.2.1 HK.out.2.2.2.2.1 hb7 rk' rc7 rfl rfl subX (fun q' r a => .inr (.inl (subY q' r a))) apXY nX nY ho
       refine bodyPost_end (v := .tuple #[]) (by simp [results, Try.results161, go_sem]) rfl ⟨F', rfl, ?_, hF', HKEEP.out.2 W7 hKT7⟩
       rw [HE.out.1, HE.out.2]
       have e1 : (kidsx ++ [z]).map KidD.t = cx ++ [z.t] := by rw [HX.out.1]; simp
       rw [e1] at hnd
       exact hnd
end Go.Proofs.Ytananonjomfpkaa

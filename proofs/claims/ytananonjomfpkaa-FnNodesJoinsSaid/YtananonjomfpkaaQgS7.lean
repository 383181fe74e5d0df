/- The contract of borrowFromAhead. -/
import Derived.Test.YtananonjomfpkaaQg17
namespace Go.Proofs.Ytananonjomfpkaa
open Go.RowKit
def Tr.oneFirst (a b : List Tr) (n : Nat) : List Tr := if a.length = 0 then b else Tr.kidAt a n :: b
set_option maxRecDepth 100000 in
set_option maxHeartbeats 4000000 in
theorem borrowAhead_c (w : World) (F : Cells) (b : Nat) (k : List Int) (pre post : List KidD) (x y : KidD) {Fk Fc : Cells} {kv cv : Value}
   (hbox : w.heap[b]? = some (.cells #[kv, cv] 99 (0, 0))) (hkr : RowF w Fk kv (k.map (Value.int .i64))) (hcr : RowF w Fc cv ((pre ++ x :: y :: post).map KidD.ptr))
   (hkids : ∀ z, z ∈ pre ++ x :: y :: post → Nd w z.F z.p z.t) (sb : ∀ o, F b o) (sk : ∀ q o, Fk q o → F q o) (sc : ∀ q o, Fc q o → F q o) (ss : ∀ z, z ∈ pre ++ x :: y :: post → ∀ q o, z.F q o → F q o)
   (hs : Sep b Fk Fc (pre ++ x :: y :: post)) (hik : pre.length < k.length) (hy1 : 0 < x.t.ks.length) (hxl : x.t.cs.length = 0 ∨ x.t.cs.length = x.t.ks.length + 1)
   (hn1 : x.t.ks.length ≤ 100000) (hm1 : y.t.ks.length ≤ 100000) (hx2 : x.t.cs.length ≤ 100000) (hy2 : y.t.cs.length ≤ 100000) (hn2 : k.length ≤ 100000) (hn3 : (pre ++ x :: y :: post).length ≤ 100000) :
   Calls Try.prog 160 #[.pointer (some ⟨b, 0, none⟩), .int .i64 (pre.length + 1 : Nat)] w
     (Worked w F b (.mk (k.set pre.length (x.t.ks.getD (x.t.ks.length - 1) 0)) (pre.map KidD.t ++ .mk (x.t.ks.take (x.t.ks.length - 1)) (x.t.cs.take x.t.ks.length) :: .mk (k.getD pre.length 0 :: y.t.ks) (Tr.oneFirst x.t.cs y.t.cs x.t.ks.length) :: post.map KidD.t))) := by
 obtain ⟨i, hi⟩ : ∃ i, i = pre.length := ⟨_, rfl⟩
 rw [← hi] at hik ⊢
 obtain ⟨p, Fx, ⟨kx, cx⟩⟩ := x
 obtain ⟨q, Fy, ⟨ky, cy⟩⟩ := y
 dsimp only [Tr.ks, Tr.cs] at hn1 hm1 hx2 hy2 hy1 hxl ⊢
 have hlk := hkr.1
 have hlc := hcr.1
 have hblt := (Array.getElem?_eq_some_iff.1 hbox).1
 obtain ⟨_, ka, kcap, rfl, k1, k2, k3, k4⟩ := id hkr
 obtain ⟨_, ca, ccap, rfl, c1, c2, c3, c4⟩ := id hcr
 have mx : (⟨p, Fx, .mk kx cx⟩ : KidD) ∈ pre ++ (⟨p, Fx, .mk kx cx⟩ : KidD) :: ⟨q, Fy, .mk ky cy⟩ :: post := by simp
 have my : (⟨q, Fy, .mk ky cy⟩ : KidD) ∈ pre ++ (⟨p, Fx, .mk kx cx⟩ : KidD) :: ⟨q, Fy, .mk ky cy⟩ :: post := by simp
 have hnx := hkids _ mx
 have hny := hkids _ my
 dsimp only at hnx hny
 obtain ⟨kidsx, Fkx, Fcx, kvx, cvx, hcx, hboxx, hkrx, hcrx, hkx, sbx, skx, scx, ssx, apx, ltx⟩ := hnx.parts
 obtain ⟨kidsy, Fky, Fcy, kvy, cvy, hcy, hboxy, hkry, hcry, hky, sby, sky, scy, ssy, apy, lty⟩ := hny.parts
 obtain ⟨_, kax, kcapx, rfl, kx1, kx2, kx3, kx4⟩ := id hkrx
 obtain ⟨_, kay, kcapy, rfl, ky1, ky2, ky3, ky4⟩ := id hkry
 obtain ⟨_, cax, ccapx, rfl, cx1, cx2, cx3, cx4⟩ := id hcrx
 obtain ⟨_, cay, ccapy, rfl, cy1, cy2, cy3, cy4⟩ := id hcry
 rcases c4 with c4 | ⟨cb, co, rfl, c5, c6⟩
 · rw [c4] at c1; simp at c1
 rcases k4 with k4 | ⟨kb, ko, rfl, k5, k6⟩
 · rw [k4] at k1; simp at k1; subst k1; simp at hik
 rcases kx4 with kx4 | ⟨yb, yo, rfl, y5, y6⟩
 · rw [kx4] at kx1; simp at kx1; subst kx1; simp at hy1
 obtain ⟨l, hl⟩ : ∃ l, l = kx.length - 1 := ⟨_, rfl⟩
 have hll : l + 1 = kx.length := by omega
 simp only [List.length_map] at hbox k1 c1 hboxx hboxy kx1 ky1 cx1 cy1
 obtain ⟨n, hnl⟩ : ∃ n, n = (pre ++ (⟨p, Fx, .mk kx cx⟩ : KidD) :: ⟨q, Fy, .mk ky cy⟩ :: post).length := ⟨_, rfl⟩
 rw [← hnl] at hbox c1 hn3
 have hlen : i + 1 < n := by rw [hnl]; simp; omega
 have hci : w.cell? ⟨cb, co + i, none⟩ = some (.pointer (some ⟨p, 0, none⟩)) := by
   rw [c6 i (by rw [List.length_map, ← hnl]; omega)]
   simp [KidD.ptr, hi]
 have hcj : w.cell? ⟨cb, co + (i + 1), none⟩ = some (.pointer (some ⟨q, 0, none⟩)) := by
   rw [c6 (i + 1) (by rw [List.length_map, ← hnl]; omega)]
   simp [KidD.ptr, hi, List.getElem_append_right]
 obtain ⟨mid, hmid⟩ : ∃ z, z = k.getD i 0 := ⟨_, rfl⟩
 obtain ⟨top, htop⟩ : ∃ z, z = kx.getD (kx.length - 1) 0 := ⟨_, rfl⟩
 have hck : w.cell? ⟨kb, ko + i, none⟩ = some (.int .i64 mid) := by
   rw [k6 i (by simpa using hik), hmid]
   simp [hik]
 have hcy0 : w.cell? ⟨yb, yo + l, none⟩ = some (.int .i64 top) := by
   rw [y6 l (by simp; omega), htop, ← hl]
   simp [show l < kx.length by omega]
 rw [← hmid, ← htop]
 obtain ⟨CX, hCX⟩ : ∃ CX, CX = cx.take kx.length := ⟨_, rfl⟩
 obtain ⟨KY, hKY⟩ : ∃ KY, KY = kx.take (kx.length - 1) := ⟨_, rfl⟩
 obtain ⟨CY, hCY⟩ : ∃ CY, CY = Tr.oneFirst cx cy kx.length := ⟨_, rfl⟩
 rw [← hCX, ← hKY, ← hCY]
 have HT := Lib.hid (And.intro hCX (And.intro hKY (And.intro hCY hxl)))
 clear hCX hKY hCY hxl
 have hsx := sep_iff.1 apx
 have hsy := sep_iff.1 apy
 have hxy : Apart Fx Fy := by
   have h := hs.ss
   rw [List.pairwise_append, List.pairwise_cons] at h
   exact h.2.1.1 ⟨q, Fy, .mk ky cy⟩ (by simp)
 have hcl := lt_of_there (c5 i (by omega)).2.1
 have hkl := lt_of_there (k5 i (by omega)).2.1
 have hpl := (Array.getElem?_eq_some_iff.1 hboxx).1
 have hql := (Array.getElem?_eq_some_iff.1 hboxy).1
 obtain ⟨kf1, kf2, kf3⟩ := k5 i (by omega)
 have hkbp : kb ≠ p := fun e => hs.ks _ mx _ _ kf1 (e ▸ sbx (ko + i))
 have hkbq : kb ≠ q := fun e => hs.ks _ my _ _ kf1 (e ▸ sby (ko + i))
 have hkbb : kb ≠ b := fun e => hs.bk b (ko + i) rfl (e ▸ kf1)
 have hbp : b ≠ p := fun e => hs.bs _ mx b 0 rfl (e ▸ sbx 0)
 have hbq : b ≠ q := fun e => hs.bs _ my b 0 rfl (e ▸ sby 0)
 have hpq : p ≠ q := fun e => hxy p 0 (sbx 0) (e ▸ sby 0)
 have hyk : (⟨kb, ko + i, none⟩ : Addr) ≠ ⟨yb, yo + l, none⟩ := fun e => by
   simp only [Addr.mk.injEq, and_true] at e
   obtain ⟨e1, e2⟩ := e
   have h := (y5 l (by omega)).1
   rw [← e1, ← e2] at h
   exact hs.ks _ mx _ _ kf1 (skx _ _ h)
 have hdr : ∀ {G : Cells} {v : Value} {xs : List Value}, RowF w G v xs → RowF w.drew G v xs := fun h => h.keep (KeptF.drew (fun _ _ => False) w) (fun _ _ _ h => h)
 obtain ⟨i0, hi0, hz0, hz1, hz2⟩ := info_parts Try.appInfo
 obtain ⟨i9, hi9, hy0, hyy1, hyy2⟩ := info_parts Try.infoPtr
 have HIN := Lib.hid (And.intro hi0 (And.intro hz0 (And.intro hz1 hz2)))
 have HIP := Lib.hid (And.intro hi9 (And.intro hy0 (And.intro hyy1 hyy2)))
 have HX := Lib.hid (And.intro hcx (And.intro hkx (And.intro sbx (And.intro skx (And.intro scx (And.intro ssx hsx))))))
 have HY := Lib.hid (And.intro hcy (And.intro hky (And.intro sby (And.intro sky (And.intro scy (And.intro ssy hsy))))))
 have hkrx0 := hdr hkrx
 have hkry0 := hdr hkry
 have hcrx0 := hdr hcrx
 have hcry0 := hdr hcry
 have hkr0 := hdr hkr
 have hcr0 := hdr hcr
 simp only [List.length_map] at hkrx0 hkry0 hcrx0 hcry0 hkr0 hcr0
 rw [← hnl] at hcr0
 obtain ⟨w0, hw0⟩ : ∃ w0, w0 = w.drew := ⟨_, rfl⟩
 rw [← hw0] at hkrx0 hkry0 hcrx0 hcry0 hkr0 hcr0
 have hs0 : w0.heap.size = w.heap.size := by rw [hw0]; rfl
 have hkp0 : KeptF (fun _ _ => False) w w0 := by rw [hw0]; exact KeptF.drew _ _
 have HR := Lib.hid (And.intro hkrx0 (And.intro hcrx0 (And.intro hkry0 (And.intro hcry0 (And.intro hkr0 hcr0)))))
 have HB := Lib.hid (And.intro (hkp0.block' hbox (fun _ h => h)) (And.intro (hkp0.block' hboxx (fun _ h => h)) (And.intro (hkp0.block' hboxy (fun _ h => h)) (And.intro hkp0 hs0))))
 have HC0 := Lib.hid (And.intro ((hkp0.cell _ _ hkl (fun h => h)).trans hck) (And.intro ((hkp0.cell yb (yo + l) (World.block_lt_of_cell? w _ hcy0) (fun h => h)).trans hcy0) (And.intro ((hkp0.frozen _ _ hkl).trans kf3) (And.intro kf1 (And.intro hyk (y5 l (by omega)).1)))))
 have HK := Lib.hid (And.intro hkids (And.intro sb (And.intro sk (And.intro sc (And.intro ss hs)))))
 have HL := Lib.hid (And.intro hlk hlc)
 have HI := Lib.hid (And.intro hi hnl)
 have HMX := Lib.hid (And.intro mx my)
 have HXY := Lib.hid hxy
 have hin : (i : Int) < (n : Int) := by omega
 have hin2 : (i : Int) + 1 < (n : Int) := by omega
 have hin3 : ((i + 1 : Nat) : Int) < (n : Int) := by omega
 have hiK : (i : Int) < (k.length : Int) := by omega
 have hi0' : (0 : Int) ≤ (i : Int) := by omega
 have hi1' : (0 : Int) ≤ (i : Int) + 1 := by omega
 have hyl : (l : Int) < (kx.length : Int) := by omega
 have hl0 : (0 : Int) ≤ (l : Int) := by omega
 have hwr : IntKind.i64.wrap (((i + 1 : Nat) : Int) - 1) = (i : Int) := by rw [IntKind.wrap_i64]; omega
 have hwr2 : IntKind.i64.wrap (i : Int) = (i : Int) := by rw [IntKind.wrap_i64]; omega
 have hwr3 : IntKind.i64.wrap ((i : Int) + 1 - 1) = (i : Int) := by rw [IntKind.wrap_i64]; omega
 have hwl : IntKind.i64.wrap ((kx.length : Int) - 1) = (l : Int) := by rw [IntKind.wrap_i64]; omega
 have hwl1 : IntKind.i64.wrap ((l : Int) + 1) = ((l + 1 : Nat) : Int) := by rw [IntKind.wrap_i64]; omega
 have HLL := Lib.hid (And.intro hl hll)
 clear hl hll
 obtain ⟨x1, x2, x3, x4⟩ := box2 hbox
 have HW0 := Lib.hid hw0
 clear hdr hcx hkx sbx skx scx ssx apx hcy hky sby sky scy ssy apy hnx hny hbox hboxx hboxy hkr hcr hkids sb sk sc ss hs hlk hlc hi hnl mx my hkrx hcrx hkry hcry ltx lty c5 c6 k5 k6 k3 c3 hmid htop y5 y6 kx3 ky4 cx3 cx4 cy3 cy4 ky3 hsx hsy hxy hck hcy0 kf1 kf2 kf3 hyk hkrx0 hkry0 hcrx0 hcry0 hkr0 hcr0 hkp0 hw0 hi0 hz0 hz1 hz2 hi9 hy0 hyy1 hyy2 hs0
 unfold maxLen at k2 c2 kx2 ky2 cx2 cy2
 go_enter Try.func160, Try.ntmps160
 go_upto_region 0 with (fail)
 go_region_held3 (fun x => x.cell? ⟨b, 1, none⟩ = some (.slice (some ⟨cb, co, none⟩) n ccap) ∧ x.cell? ⟨cb, co + i, none⟩ = some (.pointer (some ⟨p, 0, none⟩)) ∧ x.cell? ⟨cb, co + (i + 1), none⟩ = some (.pointer (some ⟨q, 0, none⟩)))
   (first | exact ⟨x2, hci, hcj⟩ | go_keep) (fail)
 rw [← HW0.out]
 clear x1 x2 x3 x4 hci hcj
 obtain ⟨x1, x2, x3, x4⟩ := box2 HB.out.1
 obtain ⟨y1, y2, y3, y4⟩ := box2 HB.out.2.1
 obtain ⟨z1, z2, z3, z4⟩ := box2 HB.out.2.2.1
 have ck := HC0.out.1
 go_upto_region 2 with (fail)
 go_cut [] from 29 to 47 (fun wc => ∃ (a1 : Option Addr) (m1 : Nat) (F1 : Cells), wc.heap[q]? = some (.cells #[.slice a1 (ky.length + 1) m1, .slice cay kidsy.length ccapy] 99 (0, 0)) ∧
     RowF wc F1 (.slice a1 (ky.length + 1) m1) ((mid :: ky).map (Value.int .i64)) ∧ (∀ q r, F1 q r → Fky q r ∨ w0.heap.size ≤ q) ∧ KeptF (fun q' r => q' = q ∨ Fky q' r) w0 wc)
 case first =>
   have HKY := Lib.hid (show ∀ W, KeptF (fun _ _ => False) w0 W → RowF W Fky (.slice kay ky.length kcapy) (ky.map (Value.int .i64)) from fun W h => HR.out.2.2.1.keep h (fun _ _ _ h => h))
   have HPB := Lib.hid (show ∀ wb w1, KeptF (fun _ _ => False) w0 wb → KeptF Fky wb w1 → w1.heap[q]? = some (.cells #[.slice kay ky.length kcapy, .slice cay kidsy.length ccapy] 99 (0, 0)) ∧ KeptF Fky w0 w1 from fun wb w1 h h' =>
     ⟨h'.block' (h.block' HB.out.2.2.1 (fun _ e => e)) (fun r e => HY.out.2.2.2.2.2.2.bk q r rfl e), (h.mono (fun _ _ _ e => e.elim)).trans (h'.mono (fun _ _ _ e => .inl e))⟩)
   have HPE : Hid (putAt (ky.map (Value.int .i64)) 0 (.int .i64 mid) = (mid :: ky).map (Value.int .i64)) := Lib.hid (by simp [putAt])
   have HPL : Hid (((mid :: ky).map (Value.int .i64)).length = ky.length + 1) := Lib.hid (by simp)
   go_region_with (go_at_call 147; refine (putInts_c _ Fky _ _ 0 mid (HKY.out _ (KeptF.drew _ _)) (Nat.zero_le _) (ints_oneCell .i64 ky) (by simp; omega)).mono ?_; rintro e w1 ⟨v1, F1, rfl, hr1, hF1, hk1⟩; rw [HPE.out] at hr1; obtain ⟨a1, m1, rfl⟩ := hr1.shown; rw [HPL.out] at hr1; have hqb := HPB.out _ _ (KeptF.drew _ _) hk1; obtain ⟨r1, r2, r3, r4⟩ := box2 hqb.1; have H1 := Lib.hid (And.intro hr1 (And.intro hF1 hqb)); clear hr1 hF1 hk1 hqb)
   all_goals (
     go_wp2_with fail
     go_meet
     refine ⟨a1, m1, F1, set_blk (o := 0) _ H1.out.2.2.1, H1.out.1.keep (KeptF.setCell (F := boxOf q) _ _ _ _ rfl) (fun q' r a e => ?_), fun q' r a => (H1.out.2.1 q' r a).imp id (fun a => a), (H1.out.2.2.2.mono (fun _ _ _ e => .inr e)).trans (KeptF.setCell _ _ _ _ (.inl (.inl rfl)))⟩
     have e' : q' = q := e
     have hql' : q < w0.heap.size := (Array.getElem?_eq_some_iff.1 HB.out.2.2.1).1
     rcases H1.out.2.1 q' r a with a | a
     · exact HY.out.2.2.2.2.2.2.bk q' r e a
     · have a' : w0.heap.size ≤ q' := a; omega)
 case rest =>
   have HYX := Lib.hid HXY.out.symm
   obtain ⟨a1, m1, F1, hbq1, hr1, hF1, hk1⟩ := hcut
   have hs := HK.out.2.2.2.2.2
   have my := HMX.out.2
   have mx := HMX.out.1
   have hsc := hk1.size
   have hyF : ∀ q' r, Fky q' r → Fy q' r := HY.out.2.2.2.1
   have hxF : ∀ q' r, Fkx q' r → Fx q' r := HX.out.2.2.2.1
   have hxC : ∀ q' r, Fcx q' r → Fx q' r := HX.out.2.2.2.2.1
   have hyC : ∀ q' r, Fcy q' r → Fy q' r := HY.out.2.2.2.2.1
   have hqF := HY.out.2.2.1
   have hpF := HX.out.2.2.1
   have chF : ∀ q' r, (q' = q ∨ Fky q' r) → Fy q' r := fun q' r h => h.elim (fun e => e ▸ hqF r) (hyF q' r)
   have hb1 := hk1.block' HB.out.1 (fun r e => hs.bs _ my b r rfl (chF _ _ e))
   have hp1 := hk1.block' HB.out.2.1 (fun r e => HYX.out p r (chF _ _ e) (hpF r))
   have hr1k := HR.out.2.2.2.2.1.keep hk1 (fun q' r a e => hs.ks _ my q' r a (chF _ _ e))
   have hr1c := HR.out.2.2.2.2.2.keep hk1 (fun q' r a e => hs.cs _ my q' r a (chF _ _ e))
   have hr1cx := HR.out.2.2.2.1.keep hk1 (fun q' r a e => e.elim (fun e => HY.out.2.2.2.2.2.2.bc q' r e a) (fun e => HY.out.2.2.2.2.2.2.kc q' r e a))
   have hr1ky := HR.out.1.keep hk1 (fun q' r a e => HYX.out q' r (chF _ _ e) (hxF _ _ a))
   have hr1cy := HR.out.2.1.keep hk1 (fun q' r a e => HYX.out q' r (chF _ _ e) (hxC _ _ a))
   have ck1 : wc.cell? ⟨kb, ko + i, none⟩ = some (.int .i64 mid) := (hk1.cell _ _ (World.block_lt_of_cell? w0 _ HC0.out.1) (fun e => hs.ks _ my _ _ HC0.out.2.2.2.1 (chF _ _ e))).trans HC0.out.1
   have cf1 : wc.frozen? ⟨kb, ko + i, none⟩ = false := (hk1.frozen _ _ (World.block_lt_of_cell? w0 _ HC0.out.1)).trans HC0.out.2.2.1
   have cy1' : wc.cell? ⟨yb, yo + l, none⟩ = some (.int .i64 top) := (hk1.cell _ _ (World.block_lt_of_cell? w0 _ HC0.out.2.1) (fun e => HYX.out _ _ (chF _ _ e) (hxF _ _ HC0.out.2.2.2.2.2))).trans HC0.out.2.1
   have hyk := HC0.out.2.2.2.2.1
   obtain ⟨W2, hW2⟩ : ∃ W2, W2 = (wc.setCell ⟨kb, ko + i, none⟩ (.int .i64 top)).drew := ⟨_, rfl⟩
   have hset := (hr1k.set i (.int .i64 top) (by simpa using hik)).keep (KeptF.drew (fun _ _ => False) _) (fun _ _ _ h => h)
   rw [← hW2] at hset
   have hk2 : KeptF Fk wc W2 := by rw [hW2]; exact (KeptF.setCell _ _ _ _ HC0.out.2.2.2.1).trans (KeptF.drew _ _)
   have hs2 : W2.heap.size = wc.heap.size := by rw [hW2]; simp
   have hb2 := hk2.block' hb1 (fun r e => hs.bk b r rfl e)
   have hq2 := hk2.block' hp1 (fun r e => hs.ks _ mx p r e (hpF r))
   have hp2 := hk2.block' hbq1 (fun r e => hs.ks _ my q r e (hqF r))
   have hr2x := hr1.keep hk2 (fun q' r a e => (hF1 q' r a).elim (fun a => hs.ks _ my q' r e (hyF _ _ a)) (fun a => by have := HL.out.1 q' r e; have := HB.out.2.2.2.2; omega))
   have hr2cx := hr1cx.keep hk2 (fun q' r a e => hs.ks _ my q' r e (hyC _ _ a))
   have hr2ky := hr1ky.keep hk2 (fun q' r a e => hs.ks _ mx q' r e (hxF _ _ a))
   have hr2cy := hr1cy.keep hk2 (fun q' r a e => hs.ks _ mx q' r e (hxC _ _ a))
   have hr2c := hr1c.keep hk2 (fun q' r a e => hs.kc q' r e a)
   have H2 := Lib.hid (And.intro hk1 (And.intro hk2 (And.intro hs2 (And.intro hsc (And.intro hF1 (And.intro hb2 (And.intro hq2 hp2)))))))
   have HR2 := Lib.hid (And.intro hset (And.intro hr2x (And.intro hr2cx (And.intro hr2ky (And.intro hr2cy hr2c)))))
   have HT3 := Lib.hid (takeInts_c W2 Fkx _ _ l hr2ky (by rw [List.length_map]; have := HLL.out.2; omega) (ints_oneCell .i64 kx) (by simp; omega))
   have HW2 := Lib.hid hW2
   clear x1 x2 x3 x4 y1 y2 y3 y4 ck
   obtain ⟨x1, x2, x3, x4⟩ := box2 hb1
   obtain ⟨y1, y2, y3, y4⟩ := box2 hp1
   clear hW2 hset hk2 hs2 hb2 hq2 hp2 hr2x hr2cx hr2ky hr2cy hr2c hbq1 hr1 hF1 hk1 hb1 hp1 hr1k hr1c hr1cx hr1ky hr1cy hs my mx hsc hyF hxF hxC hyC hqF hpF chF
   go_upto_region 3 with (fail)
   go_region_held3 (fun x => x.cell? ⟨b, 0, none⟩ = some (.slice (some ⟨kb, ko, none⟩) k.length kcap) ∧ x.cell? ⟨p, 0, none⟩ = some (.slice (some ⟨yb, yo, none⟩) kx.length kcapx) ∧ x.cell? ⟨yb, yo + l, none⟩ = some (.int .i64 top))
     (first | exact ⟨x1, y1, cy1'⟩ | exact ⟨by go_keep, by go_keep, (World.cell?_setCell_other _ _ _ _ hyk).trans cy1'⟩ | go_keep) (fail)
   rw [← HW2.out]
   clear x1 x2 x3 x4 y1 y2 y3 y4 ck1 cf1 cy1' hyk
   obtain ⟨y1, y2, y3, y4⟩ := box2 H2.out.2.2.2.2.2.2.1
   go_wp2_with fail
   refine HT3.out.mono ?_
   rintro e w3 ⟨v3, rfl, hr3, hk3⟩
   obtain ⟨a3, m3, rfl⟩ := hr3.shown
   have hs3 := hk3.size
   have hq3 := hk3.block' H2.out.2.2.2.2.2.2.1 (fun r e => HX.out.2.2.2.2.2.2.bk p r rfl e)
   clear y1 y2 y3 y4
   obtain ⟨y1, y2, y3, y4⟩ := box2 hq3
   obtain ⟨L3, hL3⟩ : ∃ L3, L3 = (takeAt (kx.map (Value.int .i64)) l).length := ⟨_, rfl⟩
   rw [← hL3] at hr3 ⊢
   obtain ⟨W4, hW4⟩ : ∃ W4, W4 = w3.setCell ⟨p, 0, none⟩ (.slice a3 L3 m3) := ⟨_, rfl⟩
   have hk34 : KeptF (boxOf p) w3 W4 := by rw [hW4]; exact KeptF.setCell _ _ _ _ rfl
   have hq4 : W4.heap[p]? = some (.cells #[.slice a3 L3 m3, .slice cax kidsx.length ccapx] 99 (0, 0)) := by rw [hW4]; exact set_blk (o := 0) _ hq3
   have hr4y := hr3.keep hk34 (fun q' r a e => HX.out.2.2.2.2.2.2.bk q' r e a)
   have hk4 : KeptF (fun q' r => q' = p ∨ Fkx q' r) W2 W4 := (hk3.mono (fun _ _ _ e => .inr e)).trans (hk34.mono (fun _ _ _ e => .inl (.inl e)))
   have hs4 : W4.heap.size = w3.heap.size := by rw [hW4]; simp
   have HW4 := Lib.hid hW4
   have H4 := Lib.hid (And.intro hk4 (And.intro hq4 (And.intro hr4y (And.intro hL3 (And.intro hs3 hs4)))))
   clear hr3 hk3 hq3 hW4 hk34 hq4 hr4y hk4 hs4 hL3
   go_upto_region 5 with (fail)
   rw [← HW4.out]
   clear y1 y2 y3 y4
   obtain ⟨y1, y2, y3, y4⟩ := box2 H4.out.2.1
   have hs := HK.out.2.2.2.2.2
   have my := HMX.out.2
   have mx := HMX.out.1
   obtain ⟨CH, hCH⟩ : ∃ CH : Cells, CH = fun q' r => q' = q ∨ Fky q' r ∨ Fcy q' r ∨ Fk q' r ∨ q' = p ∨ Fkx q' r ∨ Fcx q' r := ⟨_, rfl⟩
   have chY : ∀ {q' r}, (q' = q ∨ Fky q' r ∨ Fcy q' r) → Fy q' r := fun {q' r} h => h.elim (fun e => e ▸ HY.out.2.2.1 r) (fun h => h.elim (HY.out.2.2.2.1 q' r) (HY.out.2.2.2.2.1 q' r))
   have chX : ∀ {q' r}, (q' = p ∨ Fkx q' r ∨ Fcx q' r) → Fx q' r := fun {q' r} h => h.elim (fun e => e ▸ HX.out.2.2.1 r) (fun h => h.elim (HX.out.2.2.2.1 q' r) (HX.out.2.2.2.2.1 q' r))
   have chS : ∀ {q' r}, CH q' r → Fy q' r ∨ Fk q' r ∨ Fx q' r := fun {q' r} h => by
     rw [hCH] at h
     rcases h with h | h | h | h | h | h | h
     · exact .inl (chY (.inl h))
     · exact .inl (chY (.inr (.inl h)))
     · exact .inl (chY (.inr (.inr h)))
     · exact .inr (.inl h)
     · exact .inr (.inr (chX (.inl h)))
     · exact .inr (.inr (chX (.inr (.inl h))))
     · exact .inr (.inr (chX (.inr (.inr h))))
   have APY : ∀ z, z ∈ kidsy → Apart z.F CH := fun z hz q' r a e => by
     have ax := HY.out.2.2.2.2.2.1 z hz q' r a
     rw [hCH] at e
     rcases e with e | e | e | e | e | e | e
     · exact HY.out.2.2.2.2.2.2.bs z hz q' r e a
     · exact HY.out.2.2.2.2.2.2.ks z hz q' r e a
     · exact HY.out.2.2.2.2.2.2.cs z hz q' r e a
     · exact hs.ks _ my q' r e ax
     · exact HYX.out q' r ax (chX (.inl e))
     · exact HYX.out q' r ax (chX (.inr (.inl e)))
     · exact HYX.out q' r ax (chX (.inr (.inr e)))
   have APX : ∀ z, z ∈ kidsx → Apart z.F CH := fun z hz q' r a e => by
     have ay := HX.out.2.2.2.2.2.1 z hz q' r a
     rw [hCH] at e
     rcases e with e | e | e | e | e | e | e
     · exact HYX.out q' r (chY (.inl e)) ay
     · exact HYX.out q' r (chY (.inr (.inl e))) ay
     · exact HYX.out q' r (chY (.inr (.inr e))) ay
     · exact hs.ks _ mx q' r e ay
     · exact HX.out.2.2.2.2.2.2.bs z hz q' r e a
     · exact HX.out.2.2.2.2.2.2.ks z hz q' r e a
     · exact HX.out.2.2.2.2.2.2.cs z hz q' r e a
   have APO : ∀ z, (z ∈ pre ∨ z ∈ post) → Apart z.F CH := fun z hz q' r a e => by
     have hss := hs.ss
     rw [List.pairwise_append, List.pairwise_cons, List.pairwise_cons] at hss
     have hm : z ∈ pre ++ (⟨p, Fx, .mk kx cx⟩ : KidD) :: ⟨q, Fy, .mk ky cy⟩ :: post := by rcases hz with hz | hz <;> simp [hz]
     rcases chS e with e | e | e
     · rcases hz with hz | hz
       · exact hss.2.2 z hz ⟨q, Fy, .mk ky cy⟩ (by simp) q' r a e
       · exact hss.2.1.2.1 z hz q' r e a
     · exact hs.ks z hm q' r e a
     · rcases hz with hz | hz
       · exact hss.2.2 z hz ⟨p, Fx, .mk kx cx⟩ (by simp) q' r a e
       · exact hss.2.1.1 z (by simp [hz]) q' r e a
   have hKT : KeptF CH w W4 := by
     have a0 := HB.out.2.2.2.1.mono (G := CH) (fun _ _ _ e => e.elim)
     have a1 := a0.trans (H2.out.1.mono (fun q' r _ e => .inl (by rw [hCH]; exact e.imp id .inl)))
     have a2 := a1.trans (H2.out.2.1.mono (fun q' r _ e => .inl (by rw [hCH]; exact .inr (.inr (.inr (.inl e))))))
     exact a2.trans (H4.out.1.mono (fun q' r _ e => .inl (by rw [hCH]; exact .inr (.inr (.inr (.inr (e.imp id .inl)))))))
   have hk4 := H4.out.1
   have c4F : ∀ {q' r}, (q' = p ∨ Fkx q' r) → Fx q' r := fun h => chX (h.imp id .inl)
   have hb4 := hk4.block' H2.out.2.2.2.2.2.1 (fun r e => hs.bs _ mx b r rfl (c4F e))
   have hp4 := hk4.block' H2.out.2.2.2.2.2.2.2 (fun r e => HYX.out q r (HY.out.2.2.1 r) (c4F e))
   have rk4 := HR2.out.1.keep hk4 (fun q' r a e => hs.ks _ mx q' r a (c4F e))
   have rc4 := HR2.out.2.2.2.2.2.keep hk4 (fun q' r a e => hs.cs _ mx q' r a (c4F e))
   have ry4 := HR2.out.2.1.keep hk4 (fun q' r a e => (H2.out.2.2.2.2.1 q' r a).elim (fun a => HYX.out q' r (HY.out.2.2.2.1 _ _ a) (c4F e)) (fun a => by have := (HK.out.1 _ mx).lt q' r (c4F e); have := HB.out.2.2.2.2; omega))
   have rcy4 := HR2.out.2.2.1.keep hk4 (fun q' r a e => HYX.out q' r (HY.out.2.2.2.2.1 _ _ a) (c4F e))
   have rcx4 := HR2.out.2.2.2.2.1.keep hk4 (fun q' r a e => e.elim (fun e => HX.out.2.2.2.2.2.2.bc q' r e a) (fun e => HX.out.2.2.2.2.2.2.kc q' r e a))
   have HA := Lib.hid (And.intro hCH (And.intro (And.intro APY (And.intro APX APO)) (And.intro hKT (And.intro hb4 (And.intro hp4 (And.intro rk4 (And.intro rc4 (And.intro ry4 (And.intro rcy4 rcx4)))))))))
   clear hCH chY chX chS APY APX APO hKT hk4 c4F hb4 hp4 rk4 rc4 ry4 rcy4 rcx4 hs my mx
   have hkeep : ∀ (W : World), KeptF CH w W → (∀ z, z ∈ kidsy → Nd W z.F z.p z.t) ∧ (∀ z, z ∈ kidsx → Nd W z.F z.p z.t) ∧ (∀ z, (z ∈ pre ∨ z ∈ post) → Nd W z.F z.p z.t) := fun W h =>
     ⟨fun z hz => (HY.out.2.1 z hz).keep h (HA.out.2.1.1 z hz), fun z hz => (HX.out.2.1 z hz).keep h (HA.out.2.1.2.1 z hz), fun z hz => (HK.out.1 z (by rcases hz with hz | hz <;> simp [hz])).keep h (HA.out.2.1.2.2 z hz)⟩
   have hkF : ∀ (W : World), KeptF CH w W → KeptF F w W := fun W h => h.mono (fun q' r _ e => by
     rw [HA.out.1] at e
     rcases e with e | e | e | e | e | e | e
     · exact HK.out.2.2.2.2.1 _ HMX.out.2 q' r (e ▸ HY.out.2.2.1 r)
     · exact HK.out.2.2.2.2.1 _ HMX.out.2 q' r (HY.out.2.2.2.1 q' r e)
     · exact HK.out.2.2.2.2.1 _ HMX.out.2 q' r (HY.out.2.2.2.2.1 q' r e)
     · exact HK.out.2.2.1 q' r e
     · exact HK.out.2.2.2.2.1 _ HMX.out.1 q' r (e ▸ HX.out.2.2.1 r)
     · exact HK.out.2.2.2.2.1 _ HMX.out.1 q' r (HX.out.2.2.2.1 q' r e)
     · exact HK.out.2.2.2.2.1 _ HMX.out.1 q' r (HX.out.2.2.2.2.1 q' r e))
   have HKEEP := Lib.hid (And.intro hkeep hkF)
   have eky : takeAt (kx.map (Value.int .i64)) l = KY.map (Value.int .i64) := by
     have hll := HLL.out.2
     rw [HT.out.2.1, ← HLL.out.1]
     unfold takeAt
     rw [List.drop_eq_nil_of_le (by simp; omega), List.append_nil, List.map_take]
   have HEK := Lib.hid eky
   have hw0 := HB.out.2.2.2.2
   have HF1 := Lib.hid (show ∀ q' r, F1 q' r → Fky q' r ∨ w.heap.size ≤ q' from fun q' r a => (H2.out.2.2.2.2.1 q' r a).imp id (fun a => by omega))
   clear hkeep hkF eky hw0
   rcases List.eq_nil_or_concat kidsx with hnil | ⟨zs, z, hzs⟩
   · subst hnil
     have hcx0 : cx = [] := HX.out.1
     have hCXe : CX = [] := by rw [HT.out.1, hcx0]; simp
     have hCYe : CY = cy := by rw [HT.out.2.2.1, hcx0]; rfl
     have HE := Lib.hid (And.intro hCXe hCYe)
     clear hcx0 hCXe hCYe
     go_wp2_with fail
     obtain ⟨hky, hkx, ho⟩ := HKEEP.out.1 W4 HA.out.2.2.1
     obtain ⟨-, -, hKT, hb4, hp4, rk4, rc4, ry4, rcy4, rcx4⟩ := HA.out
     have hs := HK.out.2.2.2.2.2
     have mx := HMX.out.1
     have my := HMX.out.2
     have lx := (HK.out.1 _ mx).lt
     have ly := (HK.out.1 _ my).lt
     have hsz4 := hKT.size
     have sepY : Sep q F1 Fcy kidsy := sep_rows (n0 := w.heap.size) (n1 := W4.heap.size) HY.out.2.2.2.2.2.2 hql (fun q' r a => ly q' r (HY.out.2.2.2.1 q' r a)) (fun q' r a => ly q' r (HY.out.2.2.2.2.1 q' r a)) (fun z hz q' r a => ly q' r (HY.out.2.2.2.2.2.1 z hz q' r a)) hsz4 HF1.out ry4.1 (fun q' r a => .inl a)
     have nY := Nd.intro hp4 ry4 rcy4 hky sepY
     have hr4 := H4.out.2.2.1
     have hq4 := H4.out.2.1
     rw [HEK.out] at hr4
     have nX := Nd.intro hq4 hr4 rcx4 hkx HX.out.2.2.2.2.2.2
     rw [← HY.out.1] at nY
     have subY2 : ∀ q' r, allOf q F1 Fcy kidsy q' r → Fy q' r ∨ w.heap.size ≤ q' := allOf_sub (fun r => .inl (HY.out.2.2.1 r)) (fun q' r a => (HF1.out q' r a).imp (HY.out.2.2.2.1 q' r) id) (fun q' r a => .inl (HY.out.2.2.2.2.1 q' r a)) (fun z hz q' r a => .inl (HY.out.2.2.2.2.2.1 z hz q' r a))
     have subX : ∀ q' r, allOf p Fkx Fcx [] q' r → Fx q' r := allOf_sub (fun r => HX.out.2.2.1 r) (fun q' r a => HX.out.2.2.2.1 q' r a) (fun q' r a => HX.out.2.2.2.2.1 q' r a) (fun z hz => by simp at hz)
     have rk' : RowF W4 Fk (.slice (some ⟨kb, ko, none⟩) k.length kcap) ((k.set i top).map (Value.int .i64)) := by rw [List.map_set]; exact rk4
     obtain ⟨F', hnd, hF'⟩ := two_above (w := w) (F := F) (px := p) (py := q) hs hblt HL.out.1 HL.out.2 (fun z hz => (HK.out.1 z hz).lt) HK.out.2.1 HK.out.2.2.1 HK.out.2.2.2.1 HK.out.2.2.2.2.1 hb4 rk' rc4 rfl rfl (fun q' r a => .inl (subX q' r a)) (fun q' r a => .inr (subY2 q' r a))
       (fun q' r a e => (subY2 q' r e).elim (fun e => HXY.out q' r (subX q' r a) e) (fun e => by have := lx q' r (subX q' r a); omega)) nX nY ho
     refine bodyPost_end (v := .tuple #[]) (by simp [results, Try.results160, go_sem]) rfl ⟨F', rfl, ?_, hF', HKEEP.out.2 W4 hKT⟩
     rw [HE.out.1, HE.out.2]
     exact hnd
   · rw [List.concat_eq_append] at hzs
     subst hzs
     have hcxz : cx = zs.map KidD.t ++ [z.t] := by rw [HX.out.1]; simp
     have hzl : zs.length = l + 1 := by
       have h := HT.out.2.2.2
       have h2 := HLL.out.2
       rw [hcxz] at h
       simp at h
       omega
     have hCXe : CX = zs.map KidD.t := by
       rw [HT.out.1, hcxz, ← HLL.out.2, ← hzl, List.take_left' (by simp)]
     have hCYe : CY = z.t :: cy := by
       rw [HT.out.2.2.1, hcxz, ← HLL.out.2, ← hzl, Tr.oneFirst, if_neg (by simp)]
       simp [Tr.kidAt]
     have HE := Lib.hid (And.intro hCXe hCYe)
     have rcx4 := HA.out.2.2.2.2.2.2.2.2.2
     have hq4 := H4.out.2.1
     obtain ⟨zb, zo, rfl⟩ : ∃ b o, cax = some ⟨b, o, none⟩ := by
       obtain ⟨a, cap, hv, h1, _, h3⟩ := rcx4.read
       injection hv with e1 _ _
       obtain ⟨b, o, h4, _⟩ := h3 (by simp)
       exact ⟨b, o, e1.trans h4⟩
     have hcapz : 0 < ccapx := by simp at cx1; omega
     have hzc := rcx4.cells_of hcapz
     have cz4 : W4.cell? ⟨zb, zo + (l + 1), none⟩ = some (.pointer (some ⟨z.p, 0, none⟩)) := by
       have h := hzc.2.2.2.2 (l + 1) (by simp; omega)
       rw [h]
       simp [← hzl, KidD.ptr]
     obtain ⟨ZN, hZN⟩ : ∃ ZN, ZN = (zs ++ [z]).length := ⟨_, rfl⟩
     have hZl : ZN = l + 2 := by rw [hZN]; simp; omega
     have hZ0 : (0 : Int) < (ZN : Int) := by omega
     have hZ1 : ((l + 1 : Nat) : Int) < (ZN : Int) := by omega
     have hZ2 : (l : Int) + 1 < (ZN : Int) := by omega
     have hl1 : (0 : Int) ≤ (l : Int) + 1 := by omega
     rw [← hZN] at hq4
     have hp4 := HA.out.2.2.2.2.1
     have HZL := Lib.hid (And.intro hZN (And.intro hZl hzl))
     have HQ4 := Lib.hid (And.intro hq4 hp4)
     clear y1 y2 y3 y4 hcxz hCXe hCYe hcapz hzc rcx4 hzl
     obtain ⟨y1, y2, y3, y4⟩ := box2 hq4
     obtain ⟨x1, x2, x3, x4⟩ := box2 hp4
     clear hZN hq4 hp4 hZl
     go_upto_region 6 with (fail)
     rw [show decide (0 < ZN) = true from decide_eq_true (by omega)]
     go_cut [] from 81 to 96 (fun wd => ∃ (a5 : Option Addr) (m5 : Nat) (F2 : Cells), wd.heap[q]? = some (.cells #[.slice a1 (ky.length + 1) m1, .slice a5 (kidsy.length + 1) m5] 99 (0, 0)) ∧
         RowF wd F2 (.slice a5 (kidsy.length + 1) m5) ((z :: kidsy).map KidD.ptr) ∧ (∀ q r, F2 q r → Fcy q r ∨ W4.heap.size ≤ q) ∧ KeptF (fun q' r => q' = q ∨ Fcy q' r) W4 wd)
     case first =>
       have HCY := Lib.hid (show ∀ W, KeptF (fun _ _ => False) W4 W → RowF W Fcy (.slice cay kidsy.length ccapy) (kidsy.map KidD.ptr) from fun W h => HA.out.2.2.2.2.2.2.2.2.1.keep h (fun _ _ _ h => h))
       have HPB := Lib.hid (show ∀ wb w1, KeptF (fun _ _ => False) W4 wb → KeptF Fcy wb w1 → w1.heap[q]? = some (.cells #[.slice a1 (ky.length + 1) m1, .slice cay kidsy.length ccapy] 99 (0, 0)) ∧ KeptF Fcy W4 w1 from fun wb w1 h h' =>
         ⟨h'.block' (h.block' HQ4.out.2 (fun _ e => e)) (fun r e => HY.out.2.2.2.2.2.2.bc q r rfl e), (h.mono (fun _ _ _ e => e.elim)).trans (h'.mono (fun _ _ _ e => .inl e))⟩)
       have HLY := Lib.hid (show kidsy.length ≤ 100000 by have h := HY.out.1; have := congrArg List.length h; simp at this; omega)
       have HPE : Hid (putAt (kidsy.map KidD.ptr) 0 (.pointer (some ⟨z.p, 0, none⟩)) = (z :: kidsy).map KidD.ptr) := Lib.hid (by simp [putAt, KidD.ptr])
       have HPL : Hid (((z :: kidsy).map KidD.ptr).length = kidsy.length + 1) := Lib.hid (by simp)
       go_region_with (go_at_call 165; refine (putPtrs_c _ Fcy _ _ 0 z.p (HCY.out _ (KeptF.drew _ _)) (Nat.zero_le _) (fun u hu => by obtain ⟨v, _, rfl⟩ := List.mem_map.1 hu; rfl) (by have := HLY.out; simp; omega)).mono ?_; rintro e w5 ⟨v5, F2, rfl, hr5, hF2, hk5⟩; rw [HPE.out] at hr5; obtain ⟨a5, m5, rfl⟩ := hr5.shown; rw [HPL.out] at hr5; have hqb := HPB.out _ _ (KeptF.drew _ _) hk5; obtain ⟨r1, r2, r3, r4⟩ := box2 hqb.1; have H5 := Lib.hid (And.intro hr5 (And.intro hF2 hqb)); clear hr5 hF2 hk5 hqb)
       all_goals (
         go_wp2_with fail
         go_meet
         have hqlt := (Array.getElem?_eq_some_iff.1 HQ4.out.2).1
         refine ⟨a5, m5, F2, set_blk (o := 1) _ H5.out.2.2.1, H5.out.1.keep (KeptF.setCell (F := boxOf q) _ _ _ _ rfl) (fun q' r a e => ?_), fun q' r a => (H5.out.2.1 q' r a).imp id (fun a => a), (H5.out.2.2.2.mono (fun _ _ _ e => .inr e)).trans (KeptF.setCell _ _ _ _ (.inl (.inl rfl)))⟩
         have e' : q' = q := e
         rcases H5.out.2.1 q' r a with a | a
         · exact HY.out.2.2.2.2.2.2.bc q' r e a
         · have a' : W4.heap.size ≤ q' := a; omega)
     case rest =>
       obtain ⟨a5, m5, F2, hp5, hr5, hF2, hk5⟩ := hcut
       have hs := HK.out.2.2.2.2.2
       have mx := HMX.out.1
       have my := HMX.out.2
       obtain ⟨hCH, hAP, hKT, hb4, hp4, rk4, rc4, ry4, rcy4, rcx4⟩ := HA.out
       have c5F : ∀ {q' r}, (q' = q ∨ Fcy q' r) → Fy q' r := fun {q' r} h => h.elim (fun e => e ▸ HY.out.2.2.1 r) (HY.out.2.2.2.2.1 q' r)
       have hq5 := hk5.block' HQ4.out.1 (fun r e => HYX.out p r (c5F e) (HX.out.2.2.1 r))
       have hb5 := hk5.block' hb4 (fun r e => hs.bs _ my b r rfl (c5F e))
       have rk5 := rk4.keep hk5 (fun q' r a e => hs.ks _ my q' r a (c5F e))
       have rc5 := rc4.keep hk5 (fun q' r a e => hs.cs _ my q' r a (c5F e))
       have rx5 := ry4.keep hk5 (fun q' r a e => (HF1.out q' r a).elim (fun a => e.elim (fun e => HY.out.2.2.2.2.2.2.bk q' r e a) (fun e => HY.out.2.2.2.2.2.2.kc q' r a e)) (fun a => by have := (HK.out.1 _ my).lt q' r (c5F e); omega))
       have rky5 := H4.out.2.2.1.keep hk5 (fun q' r a e => HYX.out q' r (c5F e) (HX.out.2.2.2.1 q' r a))
       have rcy5 := rcx4.keep hk5 (fun q' r a e => HYX.out q' r (c5F e) (HX.out.2.2.2.2.1 q' r a))
       have hKT5 : KeptF CH w wc := hKT.trans (hk5.mono (fun q' r _ e => .inl (by rw [hCH]; exact e.elim .inl (fun e => .inr (.inr (.inl e))))))
       have hsd := hk5.size
       have HT6 := Lib.hid (takePtrs_c wc Fcx _ _ (l + 1) rcy5 (by have := HZL.out.2.2; simp; omega) (fun u hu => by obtain ⟨v, _, rfl⟩ := List.mem_map.1 hu; rfl) (by have h := congrArg List.length HX.out.1; simp at h ⊢; omega))
       rw [← HZL.out.1] at HT6
       have H5 := Lib.hid (And.intro hp5 (And.intro hr5 (And.intro hF2 (And.intro hb5 (And.intro rk5 (And.intro rc5 (And.intro rx5 (And.intro rky5 (And.intro hKT5 hsd)))))))))
       have HQ5 := Lib.hid hq5
       clear y1 y2 y3 y4 x1 x2 x3 x4 cz4
       obtain ⟨y1, y2, y3, y4⟩ := box2 hq5
       clear hp5 hr5 hF2 hk5 hs mx my hCH hAP hKT hb4 hp4 rk4 rc4 ry4 rcx4 rcy4 c5F hq5 hb5 rk5 rc5 rx5 rky5 rcy5 hKT5 hsd
       go_upto_region 7 with (fail)
       go_wp2_with fail
       refine HT6.out.mono ?_
       rintro e w6 ⟨v6, rfl, hr6, hk6⟩
       obtain ⟨a6, m6, rfl⟩ := hr6.shown
       have hq6 := hk6.block' HQ5.out (fun r e => HX.out.2.2.2.2.2.2.bc p r rfl e)
       clear y1 y2 y3 y4
       obtain ⟨y1, y2, y3, y4⟩ := box2 hq6
       have e6 : takeAt ((zs ++ [z]).map KidD.ptr) (l + 1) = zs.map KidD.ptr := by
         have hzl := HZL.out.2.2
         unfold takeAt
         rw [List.drop_eq_nil_of_le (by simp; omega), List.append_nil, List.map_append, List.take_left' (by simp [hzl])]
       rw [e6] at hr6 ⊢
       obtain ⟨L6, hL6⟩ : ∃ L6, L6 = (zs.map KidD.ptr).length := ⟨_, rfl⟩
       rw [← hL6] at hr6 ⊢
       have H6 := Lib.hid (And.intro hr6 (And.intro hk6 hq6))
       clear hr6 hk6 hq6 hL6 e6
       go_wp2_with fail
       obtain ⟨W7, hW7⟩ : ∃ W7, W7 = w6.setCell ⟨p, 1, none⟩ (.slice a6 L6 m6) := ⟨_, rfl⟩
       rw [← hW7]
       have hk7 : KeptF (boxOf p) w6 W7 := by rw [hW7]; exact KeptF.setCell _ _ _ _ rfl
       have hq7 : W7.heap[p]? = some (.cells #[.slice a3 L3 m3, .slice a6 L6 m6] 99 (0, 0)) := by rw [hW7]; exact set_blk (o := 1) _ H6.out.2.2
       obtain ⟨hp5, hr5, hF2, hb5, rk5, rc5, rx5, rky5, hKT5, hsd⟩ := H5.out
       obtain ⟨hr6, hk6, hq6⟩ := H6.out
       have hCH := HA.out.1
       have hs := HK.out.2.2.2.2.2
       have mx := HMX.out.1
       have my := HMX.out.2
       have lx := (HK.out.1 _ mx).lt
       have ly := (HK.out.1 _ my).lt
       have hk57 : KeptF (fun q' r => q' = p ∨ Fcx q' r) wc W7 := (hk6.mono (fun _ _ _ e => .inr e)).trans (hk7.mono (fun _ _ _ e => .inl (.inl e)))
       have c7F : ∀ {q' r}, (q' = p ∨ Fcx q' r) → Fx q' r := fun {q' r} h => h.elim (fun e => e ▸ HX.out.2.2.1 r) (HX.out.2.2.2.2.1 q' r)
       have hKT7 : KeptF CH w W7 := hKT5.trans (hk57.mono (fun q' r _ e => .inl (by rw [hCH]; exact .inr (.inr (.inr (.inr (e.imp id .inr)))))))
       obtain ⟨hky, hkx, ho⟩ := HKEEP.out.1 W7 hKT7
       have hs7 := hKT7.size
       have hs4w := HA.out.2.2.1.size
       have hp7 := hk57.block' hp5 (fun r e => HYX.out q r (HY.out.2.2.1 r) (c7F e))
       have hb7 := hk57.block' hb5 (fun r e => hs.bs _ mx b r rfl (c7F e))
       have rk7 := rk5.keep hk57 (fun q' r a e => hs.ks _ mx q' r a (c7F e))
       have rc7 := rc5.keep hk57 (fun q' r a e => hs.cs _ mx q' r a (c7F e))
       have F1x : ∀ q' r, F1 q' r → Fx q' r → False := fun q' r a e => (HF1.out q' r a).elim (fun a => HYX.out q' r (HY.out.2.2.2.1 q' r a) e) (fun a => by have := lx q' r e; omega)
       have F2x : ∀ q' r, F2 q' r → Fx q' r → False := fun q' r a e => (hF2 q' r a).elim (fun a => HYX.out q' r (HY.out.2.2.2.2.1 q' r a) e) (fun a => by have := lx q' r e; omega)
       have ry7 := rx5.keep hk57 (fun q' r a e => F1x q' r a (c7F e))
       have rcy7 := hr5.keep hk57 (fun q' r a e => F2x q' r a (c7F e))
       have rkx7 := rky5.keep hk57 (fun q' r a e => e.elim (fun e => HX.out.2.2.2.2.2.2.bk q' r e a) (fun e => HX.out.2.2.2.2.2.2.kc q' r a e))
       have rcx7 := hr6.keep hk7 (fun q' r a e => HX.out.2.2.2.2.2.2.bc q' r e a)
       have mz : z ∈ zs ++ [z] := by simp
       have zF := HX.out.2.2.2.2.2.1 z mz
       have sepY0 : Sep q F1 F2 kidsy := sep_rows (n0 := w.heap.size) (n1 := W4.heap.size) HY.out.2.2.2.2.2.2 hql (fun q' r a => ly q' r (HY.out.2.2.2.1 q' r a)) (fun q' r a => ly q' r (HY.out.2.2.2.2.1 q' r a)) (fun y hy q' r a => ly q' r (HY.out.2.2.2.2.2.1 y hy q' r a)) hs4w HF1.out (HA.out.2.2.2.2.2.2.2.1).1 hF2
       have sepY : Sep q F1 F2 (z :: kidsy) := sep_cons sepY0 z (fun q' r a e => HYX.out q' r (by have a' : q' = q := a; rw [a']; exact HY.out.2.2.1 r) (zF q' r e)) (fun q' r a e => F1x q' r a (zF q' r e)) (fun q' r a e => F2x q' r a (zF q' r e))
         (fun y hy q' r a e => HYX.out q' r (HY.out.2.2.2.2.2.1 y hy q' r e) (zF q' r a))
       have nY := Nd.intro hp7 ry7 rcy7 (fun y hy => by
         rcases List.mem_cons.1 hy with rfl | hy
         · exact hkx y mz
         · exact hky y hy) sepY
       rw [HEK.out] at rkx7
       have sepX := sep_sub HX.out.2.2.2.2.2.2 (List.sublist_append_left zs [z])
       have nX := Nd.intro hq7 rkx7 rcx7 (fun y hy => hkx y (by simp [hy])) sepX
       have subY : ∀ q' r, allOf q F1 F2 (z :: kidsy) q' r → Fx q' r ∨ Fy q' r ∨ w.heap.size ≤ q' := allOf_sub (fun r => .inr (.inl (HY.out.2.2.1 r))) (fun q' r a => (HF1.out q' r a).elim (fun a => .inr (.inl (HY.out.2.2.2.1 q' r a))) (fun a => .inr (.inr a)))
         (fun q' r a => (hF2 q' r a).elim (fun a => .inr (.inl (HY.out.2.2.2.2.1 q' r a))) (fun a => .inr (.inr (by omega)))) (fun y hy q' r a => by
         rcases List.mem_cons.1 hy with rfl | hy
         · exact .inl (zF q' r a)
         · exact .inr (.inl (HY.out.2.2.2.2.2.1 y hy q' r a)))
       have subX : ∀ q' r, allOf p Fkx Fcx zs q' r → Fx q' r := allOf_sub (fun r => HX.out.2.2.1 r) (fun q' r a => HX.out.2.2.2.1 q' r a) (fun q' r a => HX.out.2.2.2.2.1 q' r a) (fun y hy q' r a => HX.out.2.2.2.2.2.1 y (by simp [hy]) q' r a)
       have hcons := HX.out.2.2.2.2.2.2.ss
       rw [List.pairwise_append] at hcons
       have apXY : Apart (allOf p Fkx Fcx zs) (allOf q F1 F2 (z :: kidsy)) := fun q' r e a => by
         have xe := subX q' r e
         rcases a with a | a | a | ⟨y, hy, a⟩
         · exact HYX.out q' r (by subst a; exact HY.out.2.2.1 r) xe
         · exact F1x q' r a xe
         · exact F2x q' r a xe
         · rcases List.mem_cons.1 hy with rfl | hy
           · rcases e with e | e | e | ⟨u, hu, e⟩
             · exact HX.out.2.2.2.2.2.2.bs y mz q' r e a
             · exact HX.out.2.2.2.2.2.2.ks y mz q' r e a
             · exact HX.out.2.2.2.2.2.2.cs y mz q' r e a
             · exact hcons.2.2 u hu y (by simp) q' r e a
           · exact HYX.out q' r (HY.out.2.2.2.2.2.1 y hy q' r a) xe
       have rk' : RowF W7 Fk (.slice (some ⟨kb, ko, none⟩) k.length kcap) ((k.set i top).map (Value.int .i64)) := by rw [List.map_set]; exact rk7
       obtain ⟨F', hnd, hF'⟩ := two_above (w := w) (F := F) (px := p) (py := q) hs hblt HL.out.1 HL.out.2 (fun z hz => (HK.out.1 z hz).lt) HK.out.2.1 HK.out.2.2.1 HK.out.2.2.2.1 HK.out.2.2.2.2.1 hb7 rk' rc7 rfl rfl (fun q' r a => .inl (subX q' r a)) subY apXY nX nY ho
       refine bodyPost_end (v := .tuple #[]) (by simp [results, Try.results160, go_sem]) rfl ⟨F', rfl, ?_, hF', HKEEP.out.2 W7 hKT7⟩
       rw [HE.out.1, HE.out.2]
       have e1 : (z :: kidsy).map KidD.t = z.t :: cy := by rw [HY.out.1]; simp
       rw [e1] at hnd
       exact hnd
end Go.Proofs.Ytananonjomfpkaa

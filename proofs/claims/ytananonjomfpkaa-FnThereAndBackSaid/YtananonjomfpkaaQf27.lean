/- Cells that lie apart: rows that have grown, kids that come and go. -/
import Derived.Test.YtananonjomfpkaaQf25
import Derived.Test.YtananonjomfpkaaQf26
import Derived.Deep.RegionLawGrows
/- The contract of joinKids. -/
namespace Go.Proofs.Ytananonjomfpkaa
open Go.RowKit
theorem join_sep {n0 b : Nat} {Fk Fc FX : Cells} {pre post : List KidD} {x y : KidD} {px : Nat} {tx : Tr} (hs : Sep b Fk Fc (pre ++ x :: y :: post))
   (hb : b < n0) (lk : ∀ q r, Fk q r → q < n0) (lc : ∀ q r, Fc q r → q < n0) (ly : ∀ z, z ∈ pre ++ x :: y :: post → ∀ q r, z.F q r → q < n0)
   (hX : ∀ q r, FX q r → x.F q r ∨ y.F q r ∨ n0 ≤ q) : Sep b Fk Fc (pre ++ ⟨px, FX, tx⟩ :: post) := by
 have mx : x ∈ pre ++ x :: y :: post := by simp
 have my : y ∈ pre ++ x :: y :: post := by simp
 have mp : ∀ {z}, z ∈ pre → z ∈ pre ++ x :: y :: post := fun h => by simp [h]
 have mq : ∀ {z}, z ∈ post → z ∈ pre ++ x :: y :: post := fun h => by simp [h]
 have cases' : ∀ {P : KidD → Prop}, (∀ z, z ∈ pre ++ x :: y :: post → P z) → P ⟨px, FX, tx⟩ → ∀ z, z ∈ pre ++ ⟨px, FX, tx⟩ :: post → P z := fun g1 g2 z hz => by
   simp only [List.mem_append, List.mem_cons] at hz
   rcases hz with hz | rfl | hz
   · exact g1 z (mp hz)
   · exact g2
   · exact g1 z (mq hz)
 refine ⟨hs.bk, hs.bc, cases' hs.bs (fun q r h g => ?_), hs.kc, cases' hs.ks (fun q r h g => ?_), cases' hs.cs (fun q r h g => ?_), ?_⟩
 · rcases hX _ _ g with g | g | g
   · exact hs.bs x mx _ _ h g
   · exact hs.bs y my _ _ h g
   · have : q = b := h; omega
 · rcases hX _ _ g with g | g | g
   · exact hs.ks x mx _ _ h g
   · exact hs.ks y my _ _ h g
   · have := lk _ _ h; omega
 · rcases hX _ _ g with g | g | g
   · exact hs.cs x mx _ _ h g
   · exact hs.cs y my _ _ h g
   · have := lc _ _ h; omega
 · have h := hs.ss
   rw [List.pairwise_append, List.pairwise_cons, List.pairwise_cons] at h
   rw [List.pairwise_append, List.pairwise_cons]
   obtain ⟨a1, ⟨a2, a3, a4⟩, a5⟩ := h
   have fromX : ∀ {z}, z ∈ pre ++ x :: y :: post → Apart x.F z.F → Apart y.F z.F → Apart FX z.F := fun hz ha hb q r h g => by
     rcases hX _ _ h with h' | h' | h'
     · exact ha _ _ h' g
     · exact hb _ _ h' g
     · have := ly _ hz _ _ g; omega
   refine ⟨a1, ⟨fun z hz => fromX (mq hz) (a2 z (by simp [hz])) (a3 z hz), a4⟩, fun z hz u hu => ?_⟩
   rcases List.mem_cons.1 hu with rfl | hu
   · exact (fromX (mp hz) (a5 z hz x (by simp)).symm (a5 z hz y (by simp)).symm).symm
   · exact a5 z hz u (by simp [hu])
theorem takeAt_mid {α : Type} (A B : List α) (x y : α) : takeAt (A ++ x :: y :: B) (A.length + 1) = A ++ x :: B := by
 unfold takeAt
 rw [show A ++ x :: y :: B = (A ++ [x]) ++ y :: B by simp, List.take_left' (by simp), show (A ++ [x]) ++ y :: B = ((A ++ [x]) ++ [y]) ++ B by simp, List.drop_left' (by simp)]
 simp
set_option maxRecDepth 100000 in
set_option maxHeartbeats 4000000 in
theorem joinKids_c (w : World) (F : Cells) (b : Nat) (k : List Int) (pre post : List KidD) (x y : KidD) {Fk Fc : Cells} {kv cv : Value}
   (hbox : w.heap[b]? = some (.cells #[kv, cv] 99 (0, 0))) (hkr : RowF w Fk kv (k.map (Value.int .i64))) (hcr : RowF w Fc cv ((pre ++ x :: y :: post).map KidD.ptr))
   (hkids : ∀ z, z ∈ pre ++ x :: y :: post → Nd w z.F z.p z.t) (sb : ∀ o, F b o) (sk : ∀ q o, Fk q o → F q o) (sc : ∀ q o, Fc q o → F q o) (ss : ∀ z, z ∈ pre ++ x :: y :: post → ∀ q o, z.F q o → F q o)
   (hs : Sep b Fk Fc (pre ++ x :: y :: post)) (hik : pre.length < k.length)
   (hn1 : x.t.ks.length ≤ 100000) (hm1 : y.t.ks.length ≤ 100000) (hx2 : x.t.cs.length ≤ 100000) (hy2 : y.t.cs.length ≤ 100000) (hn2 : k.length ≤ 100000) (hn3 : (pre ++ x :: y :: post).length ≤ 100000) :
   Calls Try.prog 162 #[.pointer (some ⟨b, 0, none⟩), .int .i64 pre.length] w
     (Worked w F b (.mk (takeAt k pre.length) (pre.map KidD.t ++ .mk (x.t.ks ++ k.getD pre.length 0 :: y.t.ks) (x.t.cs ++ y.t.cs) :: post.map KidD.t))) := by
 obtain ⟨i, hi⟩ : ∃ i, i = pre.length := ⟨_, rfl⟩
 rw [← hi] at hik ⊢
 obtain ⟨p, Fx, ⟨kx, cx⟩⟩ := x
 obtain ⟨q, Fy, ⟨ky, cy⟩⟩ := y
 dsimp only [Tr.ks, Tr.cs] at hn1 hm1 hx2 hy2 ⊢
 have hlk := hkr.1
 have hlc := hcr.1
 have hblt := (Array.getElem?_eq_some_iff.1 hbox).1
 obtain ⟨_, ka, kcap, rfl, k1, k2, k3, k4⟩ := id hkr
 obtain ⟨_, ca, ccap, rfl, c1, c2, c3, c4⟩ := id hcr
 have mx : (⟨p, Fx, .mk kx cx⟩ : KidD) ∈ pre ++ (⟨p, Fx, .mk kx cx⟩ : KidD) :: ⟨q, Fy, .mk ky cy⟩ :: post := by simp
 have my : (⟨q, Fy, .mk ky cy⟩ : KidD) ∈ pre ++ (⟨p, Fx, .mk kx cx⟩ : KidD) :: ⟨q, Fy, .mk ky cy⟩ :: post := by simp
 have hnx := hkids _ mx
 have hny := hkids _ my
 dsimp only at hnx hny
 obtain ⟨kidsx, Fkx, Fcx, kvx, cvx, hcx, hboxx, hkrx, hcrx, hkx, sbx, skx, scx, ssx, apx, ltx⟩ := hnx.parts
 obtain ⟨kidsy, Fky, Fcy, kvy, cvy, hcy, hboxy, hkry, hcry, hky, sby, sky, scy, ssy, apy, lty⟩ := hny.parts
 rcases c4 with c4 | ⟨cb, co, rfl, c5, c6⟩
 · rw [c4] at c1; simp at c1
 rcases k4 with k4 | ⟨kb, ko, rfl, k5, k6⟩
 · rw [k4] at k1; simp at k1; subst k1; simp at hik
 simp only [List.length_map] at hbox k1 c1
 obtain ⟨n, hnl⟩ : ∃ n, n = (pre ++ (⟨p, Fx, .mk kx cx⟩ : KidD) :: ⟨q, Fy, .mk ky cy⟩ :: post).length := ⟨_, rfl⟩
 rw [← hnl] at hbox c1 hn3
 have hlen : i + 1 < n := by rw [hnl]; simp; omega
 have hci : w.cell? ⟨cb, co + i, none⟩ = some (.pointer (some ⟨p, 0, none⟩)) := by
   rw [c6 i (by rw [List.length_map, ← hnl]; omega)]
   simp [KidD.ptr, hi]
 have hcj : w.cell? ⟨cb, co + (i + 1), none⟩ = some (.pointer (some ⟨q, 0, none⟩)) := by
   rw [c6 (i + 1) (by rw [List.length_map, ← hnl]; omega)]
   simp [KidD.ptr, hi, List.getElem_append_right]
 obtain ⟨mid, hmid⟩ : ∃ z, z = k.getD i 0 := ⟨_, rfl⟩
 have hck : w.cell? ⟨kb, ko + i, none⟩ = some (.int .i64 mid) := by
   rw [k6 i (by simpa using hik), hmid]
   simp [hik]
 rw [← hmid]
 have hcbp : cb ≠ p := fun e => hs.cs _ mx _ _ (c5 i (by omega)).1 (e ▸ sbx (co + i))
 have hkbp : kb ≠ p := fun e => hs.ks _ mx _ _ (k5 i (by omega)).1 (e ▸ sbx (ko + i))
 have hbp : b ≠ p := fun e => hs.bs _ mx b 0 rfl (e ▸ sbx 0)
 have hcl := lt_of_there (c5 i (by omega)).2.1
 have hkl := lt_of_there (k5 i (by omega)).2.1
 have hpl := (Array.getElem?_eq_some_iff.1 hboxx).1
 have hdr : ∀ {G : Cells} {v : Value} {xs : List Value}, RowF w G v xs → RowF w.drew G v xs := fun h => h.keep (KeptF.drew (fun _ _ => False) w) (fun _ _ _ h => h)
 have hm := melt_c w.drew p q mid kx ky (kidsx.map KidD.ptr) (kidsy.map KidD.ptr) kvx cvx kvy cvy Fkx Fky Fcx Fcy hboxx hboxy (hdr hkrx) (hdr hkry) (hdr hcrx) (hdr hcry)
   (fun u hu => by obtain ⟨z, _, rfl⟩ := List.mem_map.1 hu; rfl) (fun u hu => by obtain ⟨z, _, rfl⟩ := List.mem_map.1 hu; rfl) (by omega) (by omega)
   (by have := congrArg List.length hcx; simp at this ⊢; omega) (by have := congrArg List.length hcy; simp at this ⊢; omega)
 have HM := Lib.hid hm
 have HKX := Lib.hid (And.intro hcx (And.intro hkx (And.intro sbx ssx)))
 have HSX := Lib.hid (sep_iff.1 apx)
 have HKY := Lib.hid (And.intro hcy (And.intro hky (And.intro sby ssy)))
 have HSY := Lib.hid (sep_iff.1 apy)
 have HXY := Lib.hid (show Apart Fx Fy from by
   have h := hs.ss
   rw [List.pairwise_append, List.pairwise_cons] at h
   exact h.2.1.1 ⟨q, Fy, .mk ky cy⟩ (by simp))
 have HNX := Lib.hid (And.intro hnx hny)
 have HBOX := Lib.hid (And.intro hbox hboxx)
 have HR := Lib.hid (And.intro hkr hcr)
 have HK := Lib.hid (And.intro hkids (And.intro sb (And.intro sk (And.intro sc (And.intro ss hs)))))
 have HL := Lib.hid (And.intro hlk hlc)
 have HI := Lib.hid (And.intro hi hnl)
 have HC := Lib.hid (And.intro hci (And.intro hcj hck))
 have HMX := Lib.hid (And.intro mx my)
 have hin : (i : Int) < (n : Int) := by omega
 have hin2 : (i : Int) + 1 < (n : Int) := by omega
 have hin3 : ((i + 1 : Nat) : Int) < (n : Int) := by omega
 have hiK : (i : Int) < (k.length : Int) := by omega
 have hi0 : (0 : Int) ≤ (i : Int) := by omega
 have hi1 : (0 : Int) ≤ (i : Int) + 1 := by omega
 have hwr : IntKind.i64.wrap ((i : Int) + 1) = (i : Int) + 1 := IntWalk.i64_in _ (by omega)
 obtain ⟨x1, x2, x3, x4⟩ := box2 hbox
 clear hm hdr hcx hkx sbx ssx apx hcy hky sby ssy apy hnx hny hbox hboxx hboxy hkr hcr hkids sb sk sc ss hs hlk hlc hi hnl mx my hkrx hcrx hkry hcry skx scx ltx sky scy lty c5 c6 k5 k6 k3 c3 hmid
 unfold maxLen at k2 c2
 go_enter Try.func162, Try.ntmps162
 go_upto_region 0 with (fail)
 go_region_held3 (fun x => x.cell? ⟨b, 0, none⟩ = some (.slice (some ⟨kb, ko, none⟩) k.length kcap) ∧ x.cell? ⟨b, 1, none⟩ = some (.slice (some ⟨cb, co, none⟩) n ccap) ∧ x.cell? ⟨cb, co + i, none⟩ = some (.pointer (some ⟨p, 0, none⟩)) ∧ x.cell? ⟨cb, co + (i + 1), none⟩ = some (.pointer (some ⟨q, 0, none⟩)) ∧ x.cell? ⟨kb, ko + i, none⟩ = some (.int .i64 mid))
   (first | exact ⟨x1, x2, hci, hcj, hck⟩ | exact ⟨z1, z2, z3, z4, z5⟩ | (refine ⟨?_, ?_, ?_, ?_, ?_⟩ <;> (rw [World.cell?_setCell_other _ _ _ _ (fun e => by have := congrArg Addr.block e; simp at this; omega), World.cell?_setCell_other _ _ _ _ (fun e => by have := congrArg Addr.block e; simp at this; omega)]; assumption)) | go_keep)
   (first
     | (go_at_call 172; refine HM.out.mono ?_; rintro e w1 ⟨kv1, cv1, g, h, rfl, hrk1, hrc1, hg1, hgh, hb1⟩; obtain ⟨a1, m1, rfl⟩ := hrk1.shown; obtain ⟨a2, m2, rfl⟩ := hrc1.shown; have hb1 : Below w.heap.size w w1 := Below.trans (Below.refl _ _).drew hb1; obtain ⟨z1, z2, -⟩ := box2 ((hb1.block b hblt).trans HBOX.out.1); have z3 := (below_cell (b := cb) (o := co + i) hb1 hcl).trans hci; have z4 := (below_cell (b := cb) (o := co + (i + 1)) hb1 hcl).trans hcj; have z5 := (below_cell (b := kb) (o := ko + i) hb1 hkl).trans hck; have hp1 := (hb1.block p hpl).trans HBOX.out.2; obtain ⟨y1, y2, y3, y4⟩ := box2 hp1; have H1 := Lib.hid (And.intro hrk1 (And.intro hrc1 (And.intro hg1 (And.intro hgh (And.intro hb1 hp1))))); clear hrk1 hrc1 hg1 hgh hb1 hp1)
     | fail)
 clear x1 x2 x3 x4 z1 z2 z3 z4 z5 y1 y2 y3 y4 hci hcj hck
 obtain ⟨W2, hW2⟩ : ∃ W2, W2 = (w1.setCell ⟨p, 0, none⟩ (.slice a1 (kx.length + (ky.length + 1)) m1)).setCell ⟨p, 1, none⟩ (.slice a2 (kidsx.length + kidsy.length) m2) := ⟨_, rfl⟩
 rw [← hW2]
 have hs1 := H1.out.2.2.2.2.1.size
 have hg1 : w.heap.size ≤ g := H1.out.2.2.1
 have hgh := H1.out.2.2.2.1
 have hk2 : KeptF (boxOf p) w1 W2 := by rw [hW2]; exact (KeptF.setCell (F := boxOf p) w1 p 0 _ rfl).trans (KeptF.setCell _ _ _ _ (.inl rfl))
 have hs2 : W2.heap.size = w1.heap.size := by rw [hW2]; simp
 have hkp1 : KeptF (fun _ _ => False) w w1 := KeptF.of_below H1.out.2.2.2.2.1 (Nat.le_refl _)
 have hp2 : W2.heap[p]? = some (.cells #[.slice a1 (kx.length + (ky.length + 1)) m1, .slice a2 (kidsx.length + kidsy.length) m2] 99 (0, 0)) := by
   rw [hW2]; exact set_blk (o := 1) _ (set_blk (o := 0) _ H1.out.2.2.2.2.2)
 have hrk2 : RowF W2 (fun x _ => x = g) (.slice a1 (kx.length + (ky.length + 1)) m1) ((kx ++ mid :: ky).map (Value.int .i64)) := by
   have h := H1.out.1.keep hk2 (fun q r h e => by have h' : q = g := h; have e' : q = p := e; omega)
   have e : ((kx ++ mid :: ky).map (Value.int .i64)).length = kx.length + (ky.length + 1) := by simp
   rwa [e] at h
 have hrc2 : RowF W2 (fun x _ => x = h) (.slice a2 (kidsx.length + kidsy.length) m2) ((kidsx ++ kidsy).map KidD.ptr) := by
   have h' := H1.out.2.1.keep hk2 (fun q r h e => by have h' : q = _ := h; have e' : q = p := e; omega)
   have e : (kidsx.map KidD.ptr ++ kidsy.map KidD.ptr).length = kidsx.length + kidsy.length := by simp
   rw [e] at h'
   rw [List.map_append]
   exact h'
 have hltx := fun (z : KidD) (hz : z ∈ kidsx) => (HKX.out.2.1 z hz).lt
 have hlty := fun (z : KidD) (hz : z ∈ kidsy) => (HKY.out.2.1 z hz).lt
 have hapx : ∀ z, z ∈ kidsx ++ kidsy → Apart z.F (boxOf p) ∧ (∀ q r, z.F q r → q < w.heap.size) ∧ Nd w z.F z.p z.t := fun z hz => by
   rcases List.mem_append.1 hz with hz | hz
   · exact ⟨(HSX.out.bs z hz).symm, hltx z hz, HKX.out.2.1 z hz⟩
   · exact ⟨fun q r a e => HXY.out q r (by have e' : q = p := e; rw [e']; exact HKX.out.2.2.1 r) (HKY.out.2.2.2 z hz q r a), hlty z hz, HKY.out.2.1 z hz⟩
 have hnd2 : Nd W2 (allOf p (fun x _ => x = g) (fun x _ => x = h) (kidsx ++ kidsy)) p (.mk (kx ++ mid :: ky) ((kidsx ++ kidsy).map KidD.t)) := by
   refine Nd.intro hp2 hrk2 hrc2 (fun z hz => ((hapx z hz).2.2.keep hkp1 (fun _ _ _ h => h)).keep hk2 (hapx z hz).1) ⟨?_, ?_, fun z hz => (hapx z hz).1.symm, ?_, fun z hz q r a e => ?_, fun z hz q r a e => ?_, ?_⟩
   · intro q r a e; have a' : q = p := a; have e' : q = g := e; omega
   · intro q r a e; have a' : q = p := a; have e' : q = h := e; omega
   · intro q r a e; have a' : q = g := a; have e' : q = h := e; omega
   · have a' : q = g := a; have := (hapx z hz).2.1 q r e; omega
   · have a' : q = h := a; have := (hapx z hz).2.1 q r e; omega
   · rw [List.pairwise_append]
     exact ⟨HSX.out.ss, HSY.out.ss, fun y hy z hz q r a e => HXY.out q r (HKX.out.2.2.2 y hy q r a) (HKY.out.2.2.2 z hz q r e)⟩
 have hFX : ∀ q r, allOf p (fun x _ => x = g) (fun x _ => x = h) (kidsx ++ kidsy) q r → Fx q r ∨ Fy q r ∨ w.heap.size ≤ q := fun q r a => by
   rcases a with a | a | a | ⟨z, hz, a⟩
   · subst a; exact .inl (HKX.out.2.2.1 r)
   · right; right; have a' : q = g := a; omega
   · right; right; have a' : q = h := a; omega
   · rcases List.mem_append.1 hz with hz | hz
     · exact .inl (HKX.out.2.2.2 z hz q r a)
     · exact .inr (.inl (HKY.out.2.2.2 z hz q r a))
 have hsp := HK.out.2.2.2.2.2
 have hapk : Apart Fk (boxOf p) := fun q r a e => hsp.ks _ HMX.out.1 q r a (by have e' : q = p := e; rw [e']; exact HKX.out.2.2.1 r)
 have hapc : Apart Fc (boxOf p) := fun q r a e => hsp.cs _ HMX.out.1 q r a (by have e' : q = p := e; rw [e']; exact HKX.out.2.2.1 r)
 have hkb2 : RowF W2 Fk (.slice (some ⟨kb, ko, none⟩) k.length kcap) (k.map (Value.int .i64)) := by
   have h := (HR.out.1.keep hkp1 (fun _ _ _ h => h)).keep hk2 hapk
   rwa [List.length_map] at h
 have hcb2 : RowF W2 Fc (.slice (some ⟨cb, co, none⟩) n ccap) ((pre ++ (⟨p, Fx, .mk kx cx⟩ : KidD) :: ⟨q, Fy, .mk ky cy⟩ :: post).map KidD.ptr) := by
   have h := (HR.out.2.keep hkp1 (fun _ _ _ h => h)).keep hk2 hapc
   rwa [List.length_map, ← HI.out.2] at h
 have hb2 := hk2.block' (hkp1.block' HBOX.out.1 (fun _ h => h)) (fun _ e => hbp e)
 have hrest : ∀ z, z ∈ pre ++ (⟨p, Fx, .mk kx cx⟩ : KidD) :: ⟨q, Fy, .mk ky cy⟩ :: post → Apart z.F Fx → Nd W2 z.F z.p z.t := fun z hz ha => ((HK.out.1 z hz).keep hkp1 (fun _ _ _ h => h)).keep hk2 (fun q r a e => ha q r a (by have e' : q = p := e; rw [e']; exact HKX.out.2.2.1 r))
 have HT3 := Lib.hid (takeInts_c W2 Fk _ _ i hkb2 (by simpa using hik) (ints_oneCell .i64 k) (by simp; omega))
 have H2 := Lib.hid (And.intro hk2 (And.intro hs2 (And.intro hkp1 (And.intro hnd2 (And.intro hFX (And.intro hcb2 (And.intro hb2 hrest)))))))
 have HAP := Lib.hid (And.intro hapk hapc)
 obtain ⟨x1, x2, x3, x4⟩ := box2 hb2
 clear hW2 hk2 hkp1 hp2 hrk2 hrc2 hltx hlty hapx hnd2 hFX hsp hapk hapc hkb2 hcb2 hb2 hrest hg1 hgh
 go_wp2_with fail
 refine HT3.out.mono ?_
 rintro e w3 ⟨v3, rfl, hr3, hk3⟩
 obtain ⟨a3, m3, rfl⟩ := hr3.shown
 have hs3 := hk3.size
 have hb3 := hk3.block' H2.out.2.2.2.2.2.2.1 (fun q e => HK.out.2.2.2.2.2.bk b q rfl e)
 clear x1 x2 x3 x4
 obtain ⟨x1, x2, x3, x4⟩ := box2 hb3
 obtain ⟨L3, hL3⟩ : ∃ L3, L3 = (takeAt (k.map (Value.int .i64)) i).length := ⟨_, rfl⟩
 rw [← hL3] at hr3 ⊢
 obtain ⟨W4, hW4⟩ : ∃ W4, W4 = w3.setCell ⟨b, 0, none⟩ (.slice a3 L3 m3) := ⟨_, rfl⟩
 have hk4 : KeptF (boxOf b) w3 W4 := by rw [hW4]; exact KeptF.setCell _ _ _ _ rfl
 have hs4 : W4.heap.size = w3.heap.size := by rw [hW4]; simp
 have hb4 : W4.heap[b]? = some (.cells #[.slice a3 L3 m3, .slice (some ⟨cb, co, none⟩) n ccap] 99 (0, 0)) := by rw [hW4]; exact set_blk (o := 0) _ hb3
 have hcr4 : RowF W4 Fc (.slice (some ⟨cb, co, none⟩) n ccap) ((pre ++ (⟨p, Fx, .mk kx cx⟩ : KidD) :: ⟨q, Fy, .mk ky cy⟩ :: post).map KidD.ptr) :=
   (H2.out.2.2.2.2.2.1.keep hk3 (fun q r a e => HK.out.2.2.2.2.2.kc q r e a)).keep hk4 (fun q r a e => HK.out.2.2.2.2.2.bc q r e a)
 have hnl := HI.out.2
 have HT5 := Lib.hid (takePtrs_c W4 Fc _ _ (i + 1) hcr4 (by rw [List.length_map, ← hnl]; omega) (fun y hy => by obtain ⟨z, _, rfl⟩ := List.mem_map.1 hy; rfl) (by rw [List.length_map, ← hnl]; omega))
 have HW4 := Lib.hid hW4
 have H4 := Lib.hid (And.intro hr3 (And.intro hk3 (And.intro hk4 (And.intro hb4 hL3))))
 obtain ⟨y1, y2, y3, y4⟩ := box2 hb4
 clear hW4 hr3 hk3 hk4 hb3 hb4 hcr4 hL3 hnl
 go_upto_region 2 with (fail)
 rw [← HW4.out]
 clear x1 x2 x3 x4
 go_wp2_with fail
 refine HT5.out.mono ?_
 rintro e w5 ⟨v5, rfl, hr5, hk5⟩
 obtain ⟨a5, m5, rfl⟩ := hr5.shown
 have hs5 := hk5.size
 have hb5 := hk5.block' H4.out.2.2.2.1 (fun q e => HK.out.2.2.2.2.2.bc b q rfl e)
 clear y1 y2 y3 y4
 obtain ⟨y1, y2, y3, y4⟩ := box2 hb5
 obtain ⟨L5, hL5⟩ : ∃ L5, L5 = (takeAt ((pre ++ (⟨p, Fx, .mk kx cx⟩ : KidD) :: ⟨q, Fy, .mk ky cy⟩ :: post).map KidD.ptr) (i + 1)).length := ⟨_, rfl⟩
 rw [← hL5] at hr5 ⊢
 have H5 := Lib.hid (And.intro hr5 (And.intro hk5 (And.intro hb5 hL5)))
 clear hr5 hk5 hb5 hL5
 go_wp2_with fail
 obtain ⟨W6, hW6⟩ : ∃ W6, W6 = w5.setCell ⟨b, 1, none⟩ (.slice a5 L5 m5) := ⟨_, rfl⟩
 rw [← hW6]
 obtain ⟨hk2, hs2, hkp1, hnd2, hFX, hcb2, hb2, hrest⟩ := H2.out
 obtain ⟨hr3, hk3, hk4, hb4, hL3⟩ := H4.out
 obtain ⟨hr5, hk5, hb5, hL5⟩ := H5.out
 obtain ⟨hkids, sb, sk, sc, ss, hs⟩ := HK.out
 have hk6 : KeptF (boxOf b) w5 W6 := by rw [hW6]; exact KeptF.setCell _ _ _ _ rfl
 have hb6 : W6.heap[b]? = some (.cells #[.slice a3 L3 m3, .slice a5 L5 m5] 99 (0, 0)) := by rw [hW6]; exact set_blk (o := 1) _ hb5
 have mx := HMX.out.1
 have my := HMX.out.2
 have e5 : takeAt ((pre ++ (⟨p, Fx, .mk kx cx⟩ : KidD) :: ⟨q, Fy, .mk ky cy⟩ :: post).map KidD.ptr) (i + 1) = (pre ++ (⟨p, allOf p (fun x _ => x = g) (fun x _ => x = h) (kidsx ++ kidsy), .mk (kx ++ mid :: ky) ((kidsx ++ kidsy).map KidD.t)⟩ : KidD) :: post).map KidD.ptr := by
   have h := takeAt_mid (pre.map KidD.ptr) (post.map KidD.ptr) (KidD.ptr ⟨p, Fx, .mk kx cx⟩) (KidD.ptr ⟨q, Fy, .mk ky cy⟩)
   rw [List.length_map, ← HI.out.1] at h
   simpa [KidD.ptr] using h
 rw [hL5] at hb6
 rw [hL5, e5] at hr5
 rw [e5] at hb6
 have hsep := join_sep (px := p) (tx := .mk (kx ++ mid :: ky) ((kidsx ++ kidsy).map KidD.t)) hs hblt HL.out.1 HL.out.2 (fun z hz => (hkids z hz).lt) hFX
 have apXk : Apart (allOf p (fun x _ => x = g) (fun x _ => x = h) (kidsx ++ kidsy)) (fun q r => q = b ∨ Fk q r ∨ Fc q r) := fun q' r a e => by
   have hz : (⟨p, allOf p (fun x _ => x = g) (fun x _ => x = h) (kidsx ++ kidsy), .mk (kx ++ mid :: ky) ((kidsx ++ kidsy).map KidD.t)⟩ : KidD) ∈ pre ++ (⟨p, allOf p (fun x _ => x = g) (fun x _ => x = h) (kidsx ++ kidsy), .mk (kx ++ mid :: ky) ((kidsx ++ kidsy).map KidD.t)⟩ : KidD) :: post := by simp
   rcases e with e | e | e
   · exact hsep.bs _ hz q' r e a
   · exact hsep.ks _ hz q' r e a
   · exact hsep.cs _ hz q' r e a
 have hkt : KeptF (fun q r => q = b ∨ Fk q r ∨ Fc q r) W2 W6 := by
   have a1 := hk3.mono (G := fun q r => q = b ∨ Fk q r ∨ Fc q r) (fun _ _ _ h => .inr (.inl h))
   have a2 := a1.trans (hk4.mono (fun _ _ _ h => .inl (.inl h)))
   have a3 := a2.trans (hk5.mono (fun _ _ _ h => .inl (.inr (.inr h))))
   exact a3.trans (hk6.mono (fun _ _ _ h => .inl (.inl h)))
 have apO : ∀ z, z ∈ pre ++ (⟨p, Fx, .mk kx cx⟩ : KidD) :: ⟨q, Fy, .mk ky cy⟩ :: post → Apart z.F (fun q r => q = b ∨ Fk q r ∨ Fc q r) := fun z hz q r a e => by
   rcases e with e | e | e
   · exact hs.bs z hz q r e a
   · exact hs.ks z hz q r e a
   · exact hs.cs z hz q r e a
 have hss := hs.ss
 rw [List.pairwise_append, List.pairwise_cons] at hss
 have hall : ∀ z, z ∈ pre ++ (⟨p, allOf p (fun x _ => x = g) (fun x _ => x = h) (kidsx ++ kidsy), .mk (kx ++ mid :: ky) ((kidsx ++ kidsy).map KidD.t)⟩ : KidD) :: post → Nd W6 z.F z.p z.t ∧ (∀ q r, z.F q r → F q r ∨ w.heap.size ≤ q) := fun z hz => by
   simp only [List.mem_append, List.mem_cons] at hz
   rcases hz with hz | rfl | hz
   · have hm : z ∈ pre ++ (⟨p, Fx, .mk kx cx⟩ : KidD) :: ⟨q, Fy, .mk ky cy⟩ :: post := by simp [hz]
     exact ⟨(hrest z hm (hss.2.2 z hz ⟨p, Fx, .mk kx cx⟩ (by simp))).keep hkt (apO z hm), fun q r a => .inl (ss z hm q r a)⟩
   · refine ⟨hnd2.keep hkt apXk, fun q' r a => ?_⟩
     rcases hFX q' r a with a | a | a
     · exact .inl (ss _ mx q' r a)
     · exact .inl (ss _ my q' r a)
     · exact .inr a
   · have hm : z ∈ pre ++ (⟨p, Fx, .mk kx cx⟩ : KidD) :: ⟨q, Fy, .mk ky cy⟩ :: post := by simp [hz]
     exact ⟨(hrest z hm (hss.2.1.1 z (by simp [hz])).symm).keep hkt (apO z hm), fun q r a => .inl (ss z hm q r a)⟩
 have hrk : RowF W6 Fk (.slice a3 L3 m3) ((takeAt k i).map (Value.int .i64)) := by
   rw [takeAt_map]
   exact ((hr3.keep hk4 (fun q r a e => hs.bk q r e a)).keep hk5 hs.kc).keep hk6 (fun q r a e => hs.bk q r e a)
 have hrc := hr5.keep hk6 (fun q r a e => hs.bc q r e a)
 have hnd := Nd.intro hb6 hrk hrc (fun z hz => (hall z hz).1) hsep
 have etree : (pre ++ (⟨p, allOf p (fun x _ => x = g) (fun x _ => x = h) (kidsx ++ kidsy), .mk (kx ++ mid :: ky) ((kidsx ++ kidsy).map KidD.t)⟩ : KidD) :: post).map KidD.t = pre.map KidD.t ++ .mk (kx ++ mid :: ky) (cx ++ cy) :: post.map KidD.t := by
   rw [HKX.out.1, HKY.out.1]; simp
 rw [etree] at hnd
 refine bodyPost_end (v := .tuple #[]) (by simp [results, Try.results162, go_sem]) rfl ⟨_, rfl, hnd, ?_, ?_⟩
 · rintro q' r (a | a | a | ⟨z, hz, a⟩)
   · subst a; exact .inl (sb r)
   · exact .inl (sk q' r a)
   · exact .inl (sc q' r a)
   · exact (hall z hz).2 q' r a
 · have a1 := hkp1.mono (G := F) (fun _ _ _ h => h.elim)
   have a2 := a1.trans (hk2.mono (fun q' r _ e => .inl (ss _ mx q' r (by have e' : q' = p := e; rw [e']; exact HKX.out.2.2.1 r))))
   exact a2.trans (hkt.mono (fun q' r _ e => .inl (e.elim (fun e => by rw [e]; exact sb r) (fun e => e.elim (sk q' r) (sc q' r)))))
end Go.Proofs.Ytananonjomfpkaa
/- Appending one element to a slice whose cells are its own, at a step of a region that draws its order. -/
namespace Go.Proofs.Ytananonjomfpkaa
open Go.RowKit
theorem step_append_row {P : Program} {w : World} {ops : Array Oper} {o : Oper} {a : Act} {K : Act → World → Prop} {Q : Exit → Act → World → Prop} {E : Prop}
   (hg : o.guard = none) (s x : Operand) (t : TypeId) (hop : o.op = Op.call { callee := Callee.builtin Builtin.append, args := #[s, x], argTypes := #[t, t] })
   (e : TypeId) (i : TypeInfo) (z : Value) (bytes : Nat) (h1 : P.underlying t = some (.slice e)) (h2 : P.info? e = some i) (h3 : i.zero = some z) (h4 : i.size = 1) (h5 : i.bytes = bytes) (h6 : z.cells.size = 1)
   (F : Cells) (v : Value) (xs : List Value) (hs : a.eval s = v) (hr : RowF w F v xs) (ab ac : Nat) (c : Nat) (y : Value) (hx : a.eval x = .slice (some ⟨ab, ac, none⟩) 1 c) (hc : w.cell? ⟨ab, ac, none⟩ = some y) (h1c : y.oneCell' = true)
   (b1 : xs.length + 1 ≤ maxLen) (b2 : (xs.length + 1) * bytes ≤ 140737488355328)
   (hK : ∀ (b1 o1 cap1 : Nat) (F1 : Cells) (w1 : World), xs.length + 1 ≤ cap1 → RowF w1 F1 (.slice (some ⟨b1, o1, none⟩) (xs.length + 1) cap1) (xs ++ [y]) → (∀ q r, F1 q r → F q r ∨ w.heap.size ≤ q) → KeptF F w w1 →
     K (a.put o.dst (.slice (some ⟨b1, o1, none⟩) (xs.length + 1) cap1)) w1) :
   if Region.wanted o (yielded ops a.tmps) = true then Oper.wp P o a w K Q else E := by
 have hadd : ∀ j u, ([y] : List Value)[j]? = some u → w.cell? ((⟨ab, ac, none⟩ : Addr).add j) = some u := fun j u hj => by
   rw [Addr.add_lit]
   cases j with
   | zero => simp at hj; subst hj; simpa using hc
   | succ j => simp at hj
 have hgrown : ∀ v' w', w'.ownsRow w.heap.size e 1 v' (xs.length + 1) (xs ++ [y]) → w.grownBy w' none → K (a.put o.dst v') w' := fun v' w' hown hgr => by
   have hrow := RowF.of_owns hown
   have hlt := hown.lt
   obtain ⟨_, ⟨_, h9⟩ | ⟨g, cap, cur, rfl, hb, hgg, hn, hm, _⟩⟩ := hown
   · omega
   · exact hK g 0 cap _ w' hn hrow (fun q r hq => by right; have := hlt q hq; omega) (KeptF.of_below (B := w.heap.size) ⟨hgr.os, hgr.tape, hgr.output, hgr.size, fun k hk => hgr.block k hk (by simp)⟩ (Nat.le_refl _))
 have hr0 := hr
 obtain ⟨glt, ao, cap, rfl, g1, g2, g3, g4⟩ := hr
 by_cases hcap : cap = 0
 · subst hcap
   have hx0 : xs = [] := List.eq_nil_of_length_eq_zero (by omega)
   subst hx0
   exact step_append_grows hg s x t hop e i z 1 bytes h1 h2 h3 h4 h5 h6 (by omega) ao 0 0 [] hs (fun h => ⟨rfl, rfl⟩) rfl (fun _ _ j u hj => by simp at hj) ⟨ab, ac, none⟩ 1 c [y] hx rfl hadd (by simpa using h1c) (by omega) (by simpa using b1) (by simpa using b2) hgrown
 have hw : Region.wanted o (yielded ops a.tmps) = true := by simp [Region.wanted, hg]
 rw [if_pos hw]
 rcases g4 with g4 | ⟨b, off, rfl, g5, g6⟩
 · exact absurd g4 hcap
 have holds : ∀ j u, xs[j]? = some u → w.cell? ⟨b, off + j, none⟩ = some u := fun j u hj => by
   have hj2 : j < xs.length := by rcases Nat.lt_or_ge j xs.length with h | h; exact h; rw [List.getElem?_eq_none h] at hj; cases hj
   rw [g6 j hj2]; rw [List.getElem?_eq_getElem hj2] at hj; exact hj
 by_cases hroom : xs.length + 1 ≤ cap
 · have hsp : ∀ j, j < [y].length → (w.cell? ⟨b, off + xs.length * i.size + j, none⟩).isSome = true ∧ w.frozen? ⟨b, off + xs.length * i.size + j, none⟩ = false := fun j hj => by
     simp at hj; subst hj
     have := g5 xs.length (by omega)
     rw [h4]
     simpa using this.2
   have hrun := run_append_room_cells (P := P) w t o.type e i h1 h2 b off xs.length cap ⟨ab, ac, none⟩ 1 c [y] (by simp [h4]) hadd (by simpa using h1c) hroom (fun j hj => (hsp j hj).1) (fun j hj => (hsp j hj).2)
   unfold Oper.wp
   simp [execOp, hop, resolve, invoke, builtin, hs, hx, hrun, Result.andThen]
   rw [h4, Nat.mul_one]
   have hKs := KeptF.setCells (F := F) b [y] (off + xs.length) w (fun j hj => by simp at hj; subst hj; exact (g5 xs.length (by omega)).1)
   refine hK b off cap F _ hroom ?_ (fun q r hq => .inl hq) hKs
   have hl : (xs ++ [y]).length = xs.length + 1 := by simp
   have := RowF.intro (w := w.setCells b (off + xs.length) [y]) (F := F) (b := b) (o := off) (cap := cap) (xs := xs ++ [y]) (fun x q h => Nat.lt_of_lt_of_le (glt x q h) hKs.size) (by omega) g2 (fun i hi => ?_) (fun i hi => ?_)
   · rwa [hl] at this
   · obtain ⟨q1, q2, q3⟩ := g5 i hi
     exact ⟨q1, hKs.there _ _ q2, (hKs.frozen _ _ (lt_of_there q2)).trans q3⟩
   · by_cases hi2 : i < xs.length
     · rw [World.cell?_setCells_out b [y] (off + xs.length) w _ (fun _ _ => .inl (by show off + i < off + xs.length; omega)), g6 i hi2]
       simp [hi2]
     · obtain rfl : i = xs.length := by simp at hi; omega
       have := World.cell?_setCells_in b [y] (off + xs.length) w (fun j hj => by simp at hj; subst hj; exact (g5 xs.length (by omega)).2.1) 0 (by simp)
       simpa using this
 · obtain ⟨v', w', hrun, r1, r2⟩ := run_append_arg_grows (P := P) w t o.type e i z 1 bytes h1 h2 h3 h4 h5 h6 (by omega) ⟨b, off, none⟩ xs.length cap xs (by simp) (fun j u hj => by rw [Addr.add_lit]; exact holds j u hj) ⟨ab, ac, none⟩ 1 c [y] (by simp) hadd (by omega) b1 b2
   unfold Oper.wp
   simp [execOp, hop, resolve, invoke, builtin, hs, hx, hrun, Result.andThen]
   exact hgrown v' w' r1 r2
end Go.Proofs.Ytananonjomfpkaa
/- Cells that lie apart: rows that have grown, kids that come and go. -/
namespace Go.Proofs.Ytananonjomfpkaa
open Go.RowKit
theorem sep_rows {n0 n1 b : Nat} {Fk Fc F1 F2 : Cells} {kids : List KidD} (hs : Sep b Fk Fc kids) (hb : b < n0) (lk : ∀ q r, Fk q r → q < n0) (lc : ∀ q r, Fc q r → q < n0) (ly : ∀ z, z ∈ kids → ∀ q r, z.F q r → q < n0)
   (hn : n0 ≤ n1) (h1 : ∀ q r, F1 q r → Fk q r ∨ n0 ≤ q) (l1 : ∀ q r, F1 q r → q < n1) (h2 : ∀ q r, F2 q r → Fc q r ∨ n1 ≤ q) : Sep b F1 F2 kids := by
 refine ⟨fun q r a e => ?_, fun q r a e => ?_, hs.bs, fun q r a e => ?_, fun z hz q r a e => ?_, fun z hz q r a e => ?_, hs.ss⟩
 · rcases h1 q r e with e | e
   · exact hs.bk q r a e
   · have : q = b := a; omega
 · rcases h2 q r e with e | e
   · exact hs.bc q r a e
   · have : q = b := a; omega
 · have la := l1 q r a
   rcases h2 q r e with e | e
   · rcases h1 q r a with a | a
     · exact hs.kc q r a e
     · have := lc q r e; omega
   · omega
 · have := ly z hz q r e
   rcases h1 q r a with a | a
   · exact hs.ks z hz q r a e
   · omega
 · have := ly z hz q r e
   rcases h2 q r a with a | a
   · exact hs.cs z hz q r a e
   · omega
theorem sep_snoc {b : Nat} {Fk Fc : Cells} {kids : List KidD} (hs : Sep b Fk Fc kids) (z : KidD) (h1 : Apart (boxOf b) z.F) (h2 : Apart Fk z.F) (h3 : Apart Fc z.F) (h4 : ∀ y, y ∈ kids → Apart y.F z.F) : Sep b Fk Fc (kids ++ [z]) := by
 have cases' : ∀ {P : KidD → Prop}, (∀ y, y ∈ kids → P y) → P z → ∀ y, y ∈ kids ++ [z] → P y := fun g1 g2 y hy => by
   rcases List.mem_append.1 hy with hy | hy
   · exact g1 y hy
   · simp at hy; subst hy; exact g2
 refine ⟨hs.bk, hs.bc, cases' hs.bs h1, hs.kc, cases' hs.ks h2, cases' hs.cs h3, ?_⟩
 rw [List.pairwise_append]
 exact ⟨hs.ss, List.pairwise_singleton _ _, fun y hy u hu => by simp at hu; subst hu; exact h4 y hy⟩
theorem sep_cons {b : Nat} {Fk Fc : Cells} {kids : List KidD} (hs : Sep b Fk Fc kids) (z : KidD) (h1 : Apart (boxOf b) z.F) (h2 : Apart Fk z.F) (h3 : Apart Fc z.F) (h4 : ∀ y, y ∈ kids → Apart z.F y.F) : Sep b Fk Fc (z :: kids) := by
 have cases' : ∀ {P : KidD → Prop}, (∀ y, y ∈ kids → P y) → P z → ∀ y, y ∈ z :: kids → P y := fun g1 g2 y hy => by
   rcases List.mem_cons.1 hy with rfl | hy
   · exact g2
   · exact g1 y hy
 exact ⟨hs.bk, hs.bc, cases' hs.bs h1, hs.kc, cases' hs.ks h2, cases' hs.cs h3, List.pairwise_cons.2 ⟨h4, hs.ss⟩⟩
theorem sep_sub {b : Nat} {Fk Fc : Cells} {kids kids' : List KidD} (hs : Sep b Fk Fc kids) (h : kids'.Sublist kids) : Sep b Fk Fc kids' :=
 ⟨hs.bk, hs.bc, fun y hy => hs.bs y (h.subset hy), hs.kc, fun y hy => hs.ks y (h.subset hy), fun y hy => hs.cs y (h.subset hy), hs.ss.sublist h⟩
theorem two_sep {n0 b : Nat} {Fk Fc FX FY : Cells} {pre post : List KidD} {x y : KidD} {px py : Nat} {tx ty : Tr} (hs : Sep b Fk Fc (pre ++ x :: y :: post))
   (hb : b < n0) (lk : ∀ q r, Fk q r → q < n0) (lc : ∀ q r, Fc q r → q < n0) (ly : ∀ z, z ∈ pre ++ x :: y :: post → ∀ q r, z.F q r → q < n0)
   (hX : ∀ q r, FX q r → x.F q r ∨ y.F q r ∨ n0 ≤ q) (hY : ∀ q r, FY q r → x.F q r ∨ y.F q r ∨ n0 ≤ q) (hXY : Apart FX FY) : Sep b Fk Fc (pre ++ ⟨px, FX, tx⟩ :: ⟨py, FY, ty⟩ :: post) := by
 have mx : x ∈ pre ++ x :: y :: post := by simp
 have my : y ∈ pre ++ x :: y :: post := by simp
 have mp : ∀ {z}, z ∈ pre → z ∈ pre ++ x :: y :: post := fun h => by simp [h]
 have mq : ∀ {z}, z ∈ post → z ∈ pre ++ x :: y :: post := fun h => by simp [h]
 have cases' : ∀ {P : KidD → Prop}, (∀ z, z ∈ pre ++ x :: y :: post → P z) → P ⟨px, FX, tx⟩ → P ⟨py, FY, ty⟩ → ∀ z, z ∈ pre ++ ⟨px, FX, tx⟩ :: ⟨py, FY, ty⟩ :: post → P z := fun g1 g2 g3 z hz => by
   simp only [List.mem_append, List.mem_cons] at hz
   rcases hz with hz | rfl | rfl | hz
   · exact g1 z (mp hz)
   · exact g2
   · exact g3
   · exact g1 z (mq hz)
 have bs' : ∀ {G : Cells}, (∀ q r, G q r → x.F q r ∨ y.F q r ∨ n0 ≤ q) → Apart (boxOf b) G := fun hG q r h g => by
   rcases hG _ _ g with g | g | g
   · exact hs.bs x mx _ _ h g
   · exact hs.bs y my _ _ h g
   · have : q = b := h; omega
 have ks' : ∀ {G : Cells}, (∀ q r, G q r → x.F q r ∨ y.F q r ∨ n0 ≤ q) → Apart Fk G := fun hG q r h g => by
   rcases hG _ _ g with g | g | g
   · exact hs.ks x mx _ _ h g
   · exact hs.ks y my _ _ h g
   · have := lk _ _ h; omega
 have cs' : ∀ {G : Cells}, (∀ q r, G q r → x.F q r ∨ y.F q r ∨ n0 ≤ q) → Apart Fc G := fun hG q r h g => by
   rcases hG _ _ g with g | g | g
   · exact hs.cs x mx _ _ h g
   · exact hs.cs y my _ _ h g
   · have := lc _ _ h; omega
 refine ⟨hs.bk, hs.bc, cases' hs.bs (bs' hX) (bs' hY), hs.kc, cases' hs.ks (ks' hX) (ks' hY), cases' hs.cs (cs' hX) (cs' hY), ?_⟩
 have h := hs.ss
 rw [List.pairwise_append, List.pairwise_cons, List.pairwise_cons] at h ⊢
 obtain ⟨a1, ⟨a2, a3, a4⟩, a5⟩ := h
 have fromX : ∀ {G : Cells} {z}, (∀ q r, G q r → x.F q r ∨ y.F q r ∨ n0 ≤ q) → z ∈ pre ++ x :: y :: post → Apart x.F z.F → Apart y.F z.F → Apart G z.F := fun hG hz ha hb q r h g => by
   rcases hG _ _ h with h' | h' | h'
   · exact ha _ _ h' g
   · exact hb _ _ h' g
   · have := ly _ hz _ _ g; omega
 refine ⟨a1, ⟨fun z hz => ?_, fun z hz => fromX hY (mq hz) (a2 z (by simp [hz])) (a3 z hz), a4⟩, fun z hz u hu => ?_⟩
 · rcases List.mem_cons.1 hz with rfl | hz
   · exact hXY
   · exact fromX hX (mq hz) (a2 z (by simp [hz])) (a3 z hz)
 · simp only [List.mem_cons] at hu
   rcases hu with rfl | rfl | hu
   · exact (fromX hX (mp hz) (a5 z hz x (by simp)).symm (a5 z hz y (by simp)).symm).symm
   · exact (fromX hY (mp hz) (a5 z hz x (by simp)).symm (a5 z hz y (by simp)).symm).symm
   · exact a5 z hz u (by simp [hu])
theorem allOf_sub {b : Nat} {Fk Fc G : Cells} {kids : List KidD} (hb : ∀ r, G b r) (hk : ∀ q r, Fk q r → G q r) (hc : ∀ q r, Fc q r → G q r) (hy : ∀ z, z ∈ kids → ∀ q r, z.F q r → G q r) : ∀ q r, allOf b Fk Fc kids q r → G q r := by
 rintro q r (h | h | h | ⟨z, hz, h⟩)
 · subst h; exact hb r
 · exact hk q r h
 · exact hc q r h
 · exact hy z hz q r h
theorem two_above {w W : World} {F : Cells} {b : Nat} {k' : List Int} {pre post : List KidD} {x y : KidD} {Fk Fc FX FY : Cells} {kv cv : Value} {px py : Nat} {tx ty : Tr}
   (hs : Sep b Fk Fc (pre ++ x :: y :: post)) (hb : b < w.heap.size) (lk : ∀ q r, Fk q r → q < w.heap.size) (lc : ∀ q r, Fc q r → q < w.heap.size) (ly : ∀ z, z ∈ pre ++ x :: y :: post → ∀ q r, z.F q r → q < w.heap.size)
   (sb : ∀ o, F b o) (sk : ∀ q o, Fk q o → F q o) (sc : ∀ q o, Fc q o → F q o) (ss : ∀ z, z ∈ pre ++ x :: y :: post → ∀ q o, z.F q o → F q o)
   (hbox : W.heap[b]? = some (.cells #[kv, cv] 99 (0, 0))) (hkr : RowF W Fk kv (k'.map (Value.int .i64))) (hcr : RowF W Fc cv ((pre ++ x :: y :: post).map KidD.ptr)) (hpx : px = x.p) (hpy : py = y.p)
   (hX : ∀ q r, FX q r → x.F q r ∨ y.F q r ∨ w.heap.size ≤ q) (hY : ∀ q r, FY q r → x.F q r ∨ y.F q r ∨ w.heap.size ≤ q) (hXY : Apart FX FY)
   (nX : Nd W FX px tx) (nY : Nd W FY py ty) (hoth : ∀ z, (z ∈ pre ∨ z ∈ post) → Nd W z.F z.p z.t) :
   ∃ F', Nd W F' b (.mk k' (pre.map KidD.t ++ tx :: ty :: post.map KidD.t)) ∧ ∀ q r, F' q r → F q r ∨ w.heap.size ≤ q := by
 have hsep := two_sep (px := px) (py := py) (tx := tx) (ty := ty) hs hb lk lc ly hX hY hXY
 have mx : x ∈ pre ++ x :: y :: post := by simp
 have my : y ∈ pre ++ x :: y :: post := by simp
 have e : (pre ++ x :: y :: post).map KidD.ptr = (pre ++ (⟨px, FX, tx⟩ : KidD) :: ⟨py, FY, ty⟩ :: post).map KidD.ptr := by
   subst hpx hpy
   simp [KidD.ptr]
 rw [e] at hcr
 have sub : ∀ {G : Cells}, (∀ q r, G q r → x.F q r ∨ y.F q r ∨ w.heap.size ≤ q) → ∀ q r, G q r → F q r ∨ w.heap.size ≤ q := fun hG q r h => by
   rcases hG q r h with h | h | h
   · exact .inl (ss _ mx q r h)
   · exact .inl (ss _ my q r h)
   · exact .inr h
 have hall : ∀ z, z ∈ pre ++ (⟨px, FX, tx⟩ : KidD) :: ⟨py, FY, ty⟩ :: post → Nd W z.F z.p z.t ∧ ∀ q r, z.F q r → F q r ∨ w.heap.size ≤ q := fun z hz => by
   simp only [List.mem_append, List.mem_cons] at hz
   rcases hz with hz | rfl | rfl | hz
   · exact ⟨hoth z (.inl hz), fun q r h => .inl (ss z (by simp [hz]) q r h)⟩
   · exact ⟨nX, sub hX⟩
   · exact ⟨nY, sub hY⟩
   · exact ⟨hoth z (.inr hz), fun q r h => .inl (ss z (by simp [hz]) q r h)⟩
 have hnd := Nd.intro hbox hkr hcr (fun z hz => (hall z hz).1) hsep
 rw [show (pre ++ (⟨px, FX, tx⟩ : KidD) :: ⟨py, FY, ty⟩ :: post).map KidD.t = pre.map KidD.t ++ tx :: ty :: post.map KidD.t by simp] at hnd
 exact ⟨_, hnd, allOf_sub (fun r => .inl (sb r)) (fun q r h => .inl (sk q r h)) (fun q r h => .inl (sc q r h)) (fun z hz => (hall z hz).2)⟩
end Go.Proofs.Ytananonjomfpkaa

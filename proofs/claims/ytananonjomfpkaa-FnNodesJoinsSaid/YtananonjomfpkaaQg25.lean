/- The model's l4Kids: kids without the one at a place. -/
import Derived.Test.YtananonjomfpkaaQgS5
import Derived.Test.YtananonjomfpkaaQgS6
/- The model's l4Left: a key for a kid from the kid behind it. -/
namespace Go.Proofs.Ytananonjomfpkaa
open Go.RowKit
theorem set_mid {α : Type} (A B : List α) (x y u v : α) : ((A ++ x :: y :: B).set A.length u).set (A.length + 1) v = A ++ u :: v :: B := by
 rw [List.set_append_right _ _ (Nat.le_refl _), Nat.sub_self, List.set_cons_zero, List.set_append_right _ _ (by omega), show A.length + 1 - A.length = 1 by omega]
 rfl
set_option maxRecDepth 100000 in
set_option maxHeartbeats 4000000 in
theorem l4Left_c (w : World) (F CH : Cells) (kv cv : Value) (k : List Int) (pre post : List KidT) (xk xc : Value) (kx : List Int) (kidsx : List KidT) (yk yc : Value) (ky : List Int) (kidsy : List KidT)
   (ho : OpenTwo w F CH kv cv k pre post xk xc kx kidsx yk yc ky kidsy) (hik : pre.length < k.length) (hy1 : 1 < ky.length) (hyc : kidsy.length ≠ 1)
   (hn1 : kx.length ≤ 100000) (hm1 : ky.length ≤ 100000) (hx2 : kidsx.length ≤ 100000) (hy2 : kidsy.length ≤ 100000) (hn2 : k.length ≤ 100000) (hn3 : pre.length + post.length ≤ 100000) :
   Calls Try.prog 145 #[.agg #[kv, cv], .int .i64 pre.length] w
     (Wrought w F (.mk (k.set pre.length (ky.getD 0 0)) (pre.map KidT.t ++ .mk (kx ++ [k.getD pre.length 0]) (Tr.oneMore (kidsx.map KidT.t) (kidsy.map KidT.t)) :: .mk (ky.drop 1) ((kidsy.map KidT.t).drop 1) :: post.map KidT.t))) := by
 obtain ⟨⟨Fk, Fc, F2, F3, F4, F5, HR⟩, hall, hap, hCH⟩ := ho
 obtain ⟨i, hi⟩ : ∃ i, i = pre.length := ⟨_, rfl⟩
 rw [← hi] at hik ⊢
 obtain ⟨K, hK⟩ : ∃ K, K = pre.map KidT.pair ++ (xk, xc) :: (yk, yc) :: post.map KidT.pair := ⟨_, rfl⟩
 rw [← hK] at HR
 obtain ⟨n, hn⟩ : ∃ n, n = K.length := ⟨_, rfl⟩
 have hlen : i + 1 < n := by rw [hn, hK]; simp; omega
 have hn4 : n ≤ 100002 := by rw [hn, hK]; simp; omega
 have r0 : RowN w Fk 1 kv k.length (k.map (Value.int .i64)) := HR.row 0 _ rfl
 have r1 : RowN w Fc 2 cv K.length (flatT K) := HR.row 1 _ rfl
 have r2 : RowN w F2 1 xk kx.length (kx.map (Value.int .i64)) := HR.row 2 _ rfl
 have r3 : RowN w F3 2 xc (kidsx.map KidT.pair).length (flatT (kidsx.map KidT.pair)) := HR.row 3 _ rfl
 have r4 : RowN w F4 1 yk ky.length (ky.map (Value.int .i64)) := HR.row 4 _ rfl
 have r5 : RowN w F5 2 yc (kidsy.map KidT.pair).length (flatT (kidsy.map KidT.pair)) := HR.row 5 _ rfl
 obtain ⟨kb, ko, kcap, rfl, k1, k2⟩ := r0.addr (by omega)
 obtain ⟨cb, co, ccap, rfl, c1, c2⟩ := r1.addr (by omega)
 obtain ⟨yb, yo, ycap, rfl, y1, y2⟩ := r4.addr (by omega)
 obtain ⟨xa, xcap, rfl⟩ := r2.shown
 obtain ⟨ya, yccap, rfl⟩ := r5.shown
 obtain ⟨xca, xccap, rfl⟩ := r3.shown
 rw [← hn] at HR ⊢
 simp only [List.length_map] at HR hK r3 r5 ⊢
 have hyaddr : kidsy.length ≠ 0 → ∃ b o, ya = some ⟨b, o, none⟩ ∧ kidsy.length ≤ yccap ∧ yccap ≤ maxLen := fun h0 => by
   obtain ⟨b, o, c, e, h1, h2⟩ := r5.addr (by omega)
   simp only [Value.slice.injEq, true_and] at e
   obtain ⟨rfl, rfl⟩ := e
   exact ⟨b, o, rfl, h1, h2⟩
 obtain ⟨W1, hW1⟩ : ∃ W1, W1 = (w.alloc (.cells #[.slice (some ⟨kb, ko, none⟩) k.length kcap, .slice (some ⟨cb, co, none⟩) n ccap] 26)).alloc (.cells #[.slice none 0 0, .slice none 0 0] 26) := ⟨_, rfl⟩
 have H1 := (HR.newBox (.slice (some ⟨kb, ko, none⟩) k.length kcap) (.slice (some ⟨cb, co, none⟩) n ccap) 26).newBox (.slice none 0 0) (.slice none 0 0) 26
 rw [← hW1] at H1
 rw [show (w.alloc (.cells #[.slice (some ⟨kb, ko, none⟩) k.length kcap, .slice (some ⟨cb, co, none⟩) n ccap] 26)).heap.size = w.heap.size + 1 by simp] at H1
 simp only [sixD, List.cons_append, List.nil_append] at H1
 have hcx : K[i]? = some (.slice xa kx.length xcap, .slice xca kidsx.length xccap) := by rw [hK, hi]; simp
 have hcy : K[i + 1]? = some (.slice (some ⟨yb, yo, none⟩) ky.length ycap, .slice ya kidsy.length yccap) := by rw [hK, hi]; simp [List.getElem?_append_right]
 obtain ⟨x1, x2, x3, x4⟩ := H1.box 6 rfl
 obtain ⟨p1, p2, p3, p4⟩ := H1.treeAt 1 rfl i _ hcx
 obtain ⟨q1, q2, q3, q4⟩ := H1.treeAt 1 rfl (i + 1) _ hcy
 dsimp only at p1 p2 q1 q2
 obtain ⟨mid, hmid⟩ : ∃ z, z = k.getD i 0 := ⟨_, rfl⟩
 obtain ⟨top, htop⟩ : ∃ z, z = ky.getD 0 0 := ⟨_, rfl⟩
 rw [← hmid, ← htop]
 have hin : (i : Int) < (n : Int) := by omega
 have hin2 : (i : Int) + 1 < (n : Int) := by omega
 have hin3 : ((i + 1 : Nat) : Int) < (n : Int) := by omega
 have hiK : (i : Int) < (k.length : Int) := by omega
 have hi0' : (0 : Int) ≤ (i : Int) := by omega
 have hi1' : (0 : Int) ≤ (i : Int) + 1 := by omega
 have hyl : (0 : Int) < (ky.length : Int) := by omega
 have hwr : IntKind.i64.wrap ((i : Int) + 1) = (i : Int) + 1 := IntWalk.i64_in _ (by omega)
 have HW1 := Lib.hid hW1
 have HH1 := Lib.hid H1
 have HALL := Lib.hid (And.intro hall (And.intro hap hCH))
 have HI := Lib.hid (And.intro hi (And.intro hK (And.intro hn (And.intro hmid htop))))
 have HYA := Lib.hid hyaddr
 clear H1 hW1 hall hap hCH hi hK HR hn r0 r1 r2 r3 r4 r5 hcx hcy hmid htop hyaddr
 unfold maxLen at k2 c2 y2
 go_enter Try.func145, Try.ntmps145
 go_upto_region 1 with (fail)
 rw [← HW1.out]
 go_cut [5, 6] from 7 (fun s5 s6 wc => ∃ p q, s5 = .pointer (some ⟨p, 0, none⟩) ∧ s6 = .pointer (some ⟨q, 0, none⟩) ∧ HeldR w CH wc [intsD Fk (.slice (some ⟨kb, ko, none⟩) k.length kcap) (k), treesD Fc (.slice (some ⟨cb, co, none⟩) n ccap) (K), intsD F2 (.slice xa kx.length xcap) (kx), treesD F3 (.slice xca kidsx.length xccap) (kidsx.map KidT.pair), intsD F4 (.slice (some ⟨yb, yo, none⟩) ky.length ycap) (ky), treesD F5 (.slice ya kidsy.length yccap) (kidsy.map KidT.pair), boxD (w.heap.size) (.slice (some ⟨kb, ko, none⟩) k.length kcap) (.slice (some ⟨cb, co, none⟩) n ccap), boxD (w.heap.size + 1) (.slice none 0 0) (.slice none 0 0), boxD (p) (.slice xa kx.length xcap) (.slice xca kidsx.length xccap), boxD (q) (.slice (some ⟨yb, yo, none⟩) ky.length ycap) (.slice ya kidsy.length yccap)])
 case first =>
   go_region_held3 (fun x => x.cell? ⟨w.heap.size, 1, none⟩ = some (.slice (some ⟨cb, co, none⟩) n ccap) ∧ x.cell? ⟨cb, co + i * 2, none⟩ = some (.slice xa kx.length xcap) ∧ x.cell? ⟨cb, co + i * 2 + 1, none⟩ = some (.slice xca kidsx.length xccap) ∧ x.cell? ⟨cb, co + (i + 1) * 2, none⟩ = some (.slice (some ⟨yb, yo, none⟩) ky.length ycap) ∧ x.cell? ⟨cb, co + (i + 1) * 2 + 1, none⟩ = some (.slice ya kidsy.length yccap))
     (first | exact ⟨x2, p1, p2, q1, q2⟩ | go_keep) (fail)
   all_goals (
     go_wp2_with fail
     go_meet
     first
       | exact ⟨_, _, rfl, rfl, (HH1.out.twoBoxes _ _ _ _ _ _).1⟩
       | exact ⟨_, _, rfl, rfl, (HH1.out.twoBoxes _ _ _ _ _ _).2⟩)
 case rest =>
 obtain ⟨p, q, rfl, rfl, H2⟩ := hcut
 clear x1 x2 x3 x4 p1 p2 p3 p4 q1 q2 q3 q4
 rename World => w2
 have HH2 := Lib.hid H2
 clear H2
 go_upto_region 2 with (fail)
 go_cut [] from 7 (fun wc => ∃ G2 xa1 xcap1, HeldR w CH wc [intsD Fk (.slice (some ⟨kb, ko, none⟩) k.length kcap) (k), treesD Fc (.slice (some ⟨cb, co, none⟩) n ccap) (K), intsD G2 (.slice xa1 (kx.length + 1) xcap1) (kx ++ [mid]), treesD F3 (.slice xca kidsx.length xccap) (kidsx.map KidT.pair), intsD F4 (.slice (some ⟨yb, yo, none⟩) ky.length ycap) (ky), treesD F5 (.slice ya kidsy.length yccap) (kidsy.map KidT.pair), boxD (w.heap.size) (.slice (some ⟨kb, ko, none⟩) k.length kcap) (.slice (some ⟨cb, co, none⟩) n ccap), boxD (w.heap.size + 1) (.slice none 0 0) (.slice none 0 0), boxD (p) (.slice xa1 (kx.length + 1) xcap1) (.slice xca kidsx.length xccap), boxD (q) (.slice (some ⟨yb, yo, none⟩) ky.length ycap) (.slice ya kidsy.length yccap)])
 case first =>
   obtain ⟨x1, x2, x3, x4⟩ := HH2.out.box 6 rfl
   obtain ⟨p1, p2, p3, p4⟩ := HH2.out.box 8 rfl
   obtain ⟨q1, q2⟩ := HH2.out.intAt 0 rfl i hik
   rw [← HI.out.2.2.2.1] at q1
   have h2a := HH2.out.still (KeptF.alloc _ w2 (.cells #[.int .i64 mid] 3))
   obtain ⟨a1, a2, a3, a4⟩ := h2a.box 8 rfl
   clear h2a
   go_region_law
     (first
       | ((refine step_held_ints (by rfl) (.tmp 19) (.tmp 25) (by rfl) 2 F2 (.slice xa kx.length xcap) kx (HH2.out.still (by exact (KeptF.alloc _ w2 _).trans (KeptF.drew _ _))) rfl (by rfl) (.slice (some ⟨w2.heap.size, 0, none⟩) 1 1) [mid] (by rfl) (by exact IntsAt.one w2 mid) (by simp; omega) ?_; intro xa1 xcap1 G2 w3 h3; obtain ⟨e1, e2, e3, e4⟩ := h3.box 8 rfl; have H3 := Lib.hid h3; clear h3))
       | fail)
   all_goals (
     go_wp2_with fail
     go_meet
     exact ⟨_, _, _, H3.out.box0 8 rfl _⟩)
 case rest =>
 obtain ⟨G2, xa1, xcap1, H3⟩ := hcut
 rename World => w3
 have HH3 := Lib.hid H3
 clear H3 HH2
 go_upto_region 3 with (fail)
 go_cut [] from 7 (fun wc => HeldR w CH wc [intsD Fk (.slice (some ⟨kb, ko, none⟩) k.length kcap) (k.set i top), treesD Fc (.slice (some ⟨cb, co, none⟩) n ccap) (K), intsD G2 (.slice xa1 (kx.length + 1) xcap1) (kx ++ [mid]), treesD F3 (.slice xca kidsx.length xccap) (kidsx.map KidT.pair), intsD F4 (.slice (some ⟨yb, yo, none⟩) ky.length ycap) (ky), treesD F5 (.slice ya kidsy.length yccap) (kidsy.map KidT.pair), boxD (w.heap.size) (.slice (some ⟨kb, ko, none⟩) k.length kcap) (.slice (some ⟨cb, co, none⟩) n ccap), boxD (w.heap.size + 1) (.slice none 0 0) (.slice none 0 0), boxD (p) (.slice xa1 (kx.length + 1) xcap1) (.slice xca kidsx.length xccap), boxD (q) (.slice (some ⟨yb, yo, none⟩) ky.length ycap) (.slice ya kidsy.length yccap)])
 case first =>
   obtain ⟨x1, x2, x3, x4⟩ := HH3.out.box 6 rfl
   obtain ⟨p1, p2, p3, p4⟩ := HH3.out.box 9 rfl
   obtain ⟨q1, q2⟩ := HH3.out.intAt 4 rfl 0 (by omega)
   obtain ⟨q3, q4⟩ := HH3.out.intAt 0 rfl i hik
   rw [← HI.out.2.2.2.2, Nat.add_zero] at q1
   have hyn : 0 < ky.length := by omega
   go_region_law (fail)
   all_goals (
     go_wp2_with fail
     go_meet
     first
       | exact HH3.out.setInt 0 rfl i hik top
       | exact (HH3.out.setInt 0 rfl i hik top).still (KeptF.drew _ _))
 case rest =>
 rename World => w4
 have HH4 := Lib.hid hcut
 clear hcut HH3
 go_upto_region 4 with (fail)
 go_cut [] from 7 (fun wc => HeldR w CH wc [intsD Fk (.slice (some ⟨kb, ko, none⟩) k.length kcap) (k.set i top), treesD Fc (.slice (some ⟨cb, co, none⟩) n ccap) (K), intsD G2 (.slice xa1 (kx.length + 1) xcap1) (kx ++ [mid]), treesD F3 (.slice xca kidsx.length xccap) (kidsx.map KidT.pair), intsD F4 (.slice (some ⟨yb, yo + 1, none⟩) (ky.length - 1) (ycap - 1)) (ky.drop 1), treesD F5 (.slice ya kidsy.length yccap) (kidsy.map KidT.pair), boxD (w.heap.size) (.slice (some ⟨kb, ko, none⟩) k.length kcap) (.slice (some ⟨cb, co, none⟩) n ccap), boxD (w.heap.size + 1) (.slice none 0 0) (.slice none 0 0), boxD (p) (.slice xa1 (kx.length + 1) xcap1) (.slice xca kidsx.length xccap), boxD (q) (.slice (some ⟨yb, yo + 1, none⟩) (ky.length - 1) (ycap - 1)) (.slice ya kidsy.length yccap)])
 case first =>
   obtain ⟨p1, p2, p3, p4⟩ := HH4.out.box 9 rfl
   have hy1' : (1 : Int) ≤ (ky.length : Int) := by omega
   have hyc1 : ¬ ycap = 1 := by omega
   go_wp2_with fail
   go_meet
   exact (HH4.out.dropInts 4 rfl 1 hy1).box0 9 rfl _
 case rest =>
 rename World => w5
 have HH5 := Lib.hid hcut
 clear hcut HH4
 obtain ⟨p1, p2, p3, p4⟩ := HH5.out.box 9 rfl
 go_upto_if 43 with (fail)
 clear p1 p2 p3 p4
 go_cut [] from 7 (fun wc => ∃ G3 xca1 nx xccap1 ya1 ny yccap1, HeldR w CH wc [intsD Fk (.slice (some ⟨kb, ko, none⟩) k.length kcap) (k.set i top), treesD Fc (.slice (some ⟨cb, co, none⟩) n ccap) (K), intsD G2 (.slice xa1 (kx.length + 1) xcap1) (kx ++ [mid]), treesD G3 (.slice xca1 nx xccap1) ((kidsx ++ kidsy.take 1).map KidT.pair), intsD F4 (.slice (some ⟨yb, yo + 1, none⟩) (ky.length - 1) (ycap - 1)) (ky.drop 1), treesD F5 (.slice ya1 ny yccap1) ((kidsy.drop 1).map KidT.pair), boxD (w.heap.size) (.slice (some ⟨kb, ko, none⟩) k.length kcap) (.slice (some ⟨cb, co, none⟩) n ccap), boxD (w.heap.size + 1) (.slice none 0 0) (.slice none 0 0), boxD (p) (.slice xa1 (kx.length + 1) xcap1) (.slice xca1 nx xccap1), boxD (q) (.slice (some ⟨yb, yo + 1, none⟩) (ky.length - 1) (ycap - 1)) (.slice ya1 ny yccap1)])
 case first =>
   rcases kidsy with _ | ⟨z, zs⟩
   · go_wp2_with fail
     go_meet
     exact ⟨F3, xca, kidsx.length, xccap, ya, 0, yccap, by simpa using HH5.out⟩
   · obtain ⟨zb, zo, rfl, c7, c8⟩ := HYA.out (by simp)
     unfold maxLen at c8
     obtain ⟨NY, hNY⟩ : ∃ NY, NY = (z :: zs).length := ⟨_, rfl⟩
     have hz := (HALL.out.1 z (by simp)).1.slices
     obtain ⟨za, zn, zc, za', zn', zc', hz1, hz2⟩ := hz
     have hp0 : ((z :: zs).map KidT.pair)[0]? = some (.slice za zn zc, .slice za' zn' zc') := by simp [KidT.pair, hz1, hz2]
     obtain ⟨n1, n2, n3, n4⟩ := HH5.out.treeAt 5 rfl 0 _ hp0
     obtain ⟨x1, x2, x3, x4⟩ := HH5.out.box 8 rfl
     obtain ⟨p1, p2, p3, p4⟩ := HH5.out.box 9 rfl
     dsimp only at n1 n2
     simp only [Nat.zero_mul, Nat.add_zero] at n1 n2 n3 n4
     have h5n := HH5.out
     rw [← hNY] at h5n
     have HH5n := Lib.hid h5n
     have h5a := HH5.out.still (KeptF.alloc _ w5 (.cells #[.slice za zn zc, .slice za' zn' zc'] 26))
     obtain ⟨a1, a2, a3, a4⟩ := h5a.box 8 rfl
     have HZ := Lib.hid (And.intro hNY (And.intro hz1 hz2))
     rw [← hNY] at p2 hyc c7 ⊢
     have hNY0 : 0 < NY := by rw [hNY]; simp
     have hNY1 : (1 : Int) < (NY : Int) := by omega
     clear h5a hp0 hz1 hz2 hNY h5n
     go_upto_region 6 with (fail)
     go_cut [] from 7 (fun wc => ∃ G3 xca1 xccap1, HeldR w CH wc [intsD Fk (.slice (some ⟨kb, ko, none⟩) k.length kcap) (k.set i top), treesD Fc (.slice (some ⟨cb, co, none⟩) n ccap) (K), intsD G2 (.slice xa1 (kx.length + 1) xcap1) (kx ++ [mid]), treesD G3 (.slice xca1 (kidsx.length + 1) xccap1) (kidsx.map KidT.pair ++ [(.slice za zn zc, .slice za' zn' zc')]), intsD F4 (.slice (some ⟨yb, yo + 1, none⟩) (ky.length - 1) (ycap - 1)) (ky.drop 1), treesD F5 (.slice (some ⟨zb, zo, none⟩) NY yccap) ((z :: zs).map KidT.pair), boxD (w.heap.size) (.slice (some ⟨kb, ko, none⟩) k.length kcap) (.slice (some ⟨cb, co, none⟩) n ccap), boxD (w.heap.size + 1) (.slice none 0 0) (.slice none 0 0), boxD (p) (.slice xa1 (kx.length + 1) xcap1) (.slice xca1 (kidsx.length + 1) xccap1), boxD (q) (.slice (some ⟨yb, yo + 1, none⟩) (ky.length - 1) (ycap - 1)) (.slice (some ⟨zb, zo, none⟩) NY yccap)])
     case first =>
       go_region_law
         (first
           | ((refine step_held_trees (by rfl) (.tmp 45) (.tmp 50) (by rfl) 3 F3 (.slice xca kidsx.length xccap) (kidsx.map KidT.pair) (HH5n.out.still (by exact (KeptF.alloc _ w5 _).trans (KeptF.drew _ _))) rfl (by rfl) (.slice (some ⟨w5.heap.size, 0, none⟩) 1 1) [(.slice za zn zc, .slice za' zn' zc')] (by rfl) (by exact KidsAt.one w5 _ _) (fun u hu => by simp [flatT] at hu; rcases hu with rfl | rfl <;> rfl) (by simp; omega) ?_; intro xca1 xccap1 G3 w6 h6; obtain ⟨e1, e2, e3, e4⟩ := h6.box 8 rfl; simp only [List.length_map, List.length_cons, List.length_nil, Nat.zero_add] at h6 ⊢; have H6 := Lib.hid h6; clear h6))
           | fail)
       all_goals (
         go_wp2_with fail
         go_meet
         have h7 := H6.out.box1 8 rfl (.slice xca1 (kidsx.length + 1) xccap1)
         exact ⟨G3, xca1, xccap1, h7⟩)
     case rest =>
     obtain ⟨G3, xca1, xccap1, H6⟩ := hcut
     rename World => w6
     have HH6 := Lib.hid H6
     clear H6 n1 n2 n3 n4 x1 x2 x3 x4 p1 p2 p3 p4 a1 a2 a3 a4
     obtain ⟨p1, p2, p3, p4⟩ := HH6.out.box 9 rfl
     have hyc1 : ¬ yccap = 1 := by omega
     have hyc2 : (1 : Int) ≤ (yccap : Int) := by omega
     go_wp2_with fail
     go_meet
     have h7 := (HH6.out.dropTrees 5 rfl 1 (by rw [List.length_map, ← HZ.out.1]; omega)).box1 9 rfl (.slice (some ⟨zb, zo + 1 * 2, none⟩) (NY - 1) (yccap - 1))
     have e1 : (kidsx ++ (z :: zs).take 1).map KidT.pair = kidsx.map KidT.pair ++ [(.slice za zn zc, .slice za' zn' zc')] := by simp [KidT.pair, HZ.out.2.1, HZ.out.2.2]
     rw [e1, List.map_drop]
     exact ⟨G3, xca1, kidsx.length + 1, xccap1, some ⟨zb, zo + 1 * 2, none⟩, NY - 1, yccap - 1, h7⟩
 case rest =>
 obtain ⟨G3, xca1, nx, xccap1, ya1, ny, yccap1, H7⟩ := hcut
 rename World => w7
 have HH7 := Lib.hid H7
 clear H7 HH5 HYA
 go_upto_region 8 with (fail)
 go_cut [] from 7 (fun wc => HeldR w CH wc [intsD Fk (.slice (some ⟨kb, ko, none⟩) k.length kcap) (k.set i top), treesD Fc (.slice (some ⟨cb, co, none⟩) n ccap) (K.set i (.slice xa1 (kx.length + 1) xcap1, .slice xca1 nx xccap1)), intsD G2 (.slice xa1 (kx.length + 1) xcap1) (kx ++ [mid]), treesD G3 (.slice xca1 nx xccap1) ((kidsx ++ kidsy.take 1).map KidT.pair), intsD F4 (.slice (some ⟨yb, yo + 1, none⟩) (ky.length - 1) (ycap - 1)) (ky.drop 1), treesD F5 (.slice ya1 ny yccap1) ((kidsy.drop 1).map KidT.pair), boxD (w.heap.size) (.slice (some ⟨kb, ko, none⟩) k.length kcap) (.slice (some ⟨cb, co, none⟩) n ccap), boxD (w.heap.size + 1) (.slice none 0 0) (.slice none 0 0), boxD (p) (.slice xa1 (kx.length + 1) xcap1) (.slice xca1 nx xccap1), boxD (q) (.slice (some ⟨yb, yo + 1, none⟩) (ky.length - 1) (ycap - 1)) (.slice ya1 ny yccap1)])
 case first =>
   obtain ⟨x1, x2, x3, x4⟩ := HH7.out.box 6 rfl
   obtain ⟨p1, p2, p3, p4⟩ := HH7.out.box 8 rfl
   obtain ⟨q1, q2, q3, q4⟩ := HH7.out.treeAt 1 rfl i (.slice xa kx.length xcap, .slice xca kidsx.length xccap) (by rw [HI.out.2.1, HI.out.1]; simp)
   go_wp2_with fail
   go_meet
   exact HH7.out.setTree 1 rfl i (by have := HI.out.2.2.1; omega) _ _
 case rest =>
 rename World => w8
 have HH8 := Lib.hid hcut
 clear hcut HH7
 go_upto_region 9 with (fail)
 go_cut [] from 7 (fun wc => HeldR w CH wc [intsD Fk (.slice (some ⟨kb, ko, none⟩) k.length kcap) (k.set i top), treesD Fc (.slice (some ⟨cb, co, none⟩) n ccap) ((K.set i (.slice xa1 (kx.length + 1) xcap1, .slice xca1 nx xccap1)).set (i + 1) (.slice (some ⟨yb, yo + 1, none⟩) (ky.length - 1) (ycap - 1), .slice ya1 ny yccap1)), intsD G2 (.slice xa1 (kx.length + 1) xcap1) (kx ++ [mid]), treesD G3 (.slice xca1 nx xccap1) ((kidsx ++ kidsy.take 1).map KidT.pair), intsD F4 (.slice (some ⟨yb, yo + 1, none⟩) (ky.length - 1) (ycap - 1)) (ky.drop 1), treesD F5 (.slice ya1 ny yccap1) ((kidsy.drop 1).map KidT.pair), boxD (w.heap.size) (.slice (some ⟨kb, ko, none⟩) k.length kcap) (.slice (some ⟨cb, co, none⟩) n ccap), boxD (w.heap.size + 1) (.slice none 0 0) (.slice none 0 0), boxD (p) (.slice xa1 (kx.length + 1) xcap1) (.slice xca1 nx xccap1), boxD (q) (.slice (some ⟨yb, yo + 1, none⟩) (ky.length - 1) (ycap - 1)) (.slice ya1 ny yccap1)])
 case first =>
   obtain ⟨x1, x2, x3, x4⟩ := HH8.out.box 6 rfl
   obtain ⟨p1, p2, p3, p4⟩ := HH8.out.box 9 rfl
   obtain ⟨q1, q2, q3, q4⟩ := HH8.out.treeAt 1 rfl (i + 1) (.slice (some ⟨yb, yo, none⟩) ky.length ycap, .slice ya kidsy.length yccap) (by rw [List.getElem?_set_ne (by omega), HI.out.2.1, HI.out.1]; simp [List.getElem?_append_right])
   go_wp2_with fail
   go_meet
   exact HH8.out.setTree 1 rfl (i + 1) (by rw [List.length_set]; have := HI.out.2.2.1; omega) _ _
 case rest =>
 rename World => w9
 have HH9 := Lib.hid hcut
 clear hcut HH8
 obtain ⟨x1, x2, x3, x4⟩ := HH9.out.box 6 rfl
 obtain ⟨p1, p2, p3, p4⟩ := HH9.out.box 7 rfl
 go_wp2_with fail
 have HF := (HH9.out.box0 7 rfl (.slice (some ⟨kb, ko, none⟩) k.length kcap)).box1 7 rfl (.slice (some ⟨cb, co, none⟩) n ccap)
 obtain ⟨W, hW⟩ : ∃ W, W = (w9.setCell ⟨w.heap.size + 1, 0, none⟩ (.slice (some ⟨kb, ko, none⟩) k.length kcap)).setCell ⟨w.heap.size + 1, 1, none⟩ (.slice (some ⟨cb, co, none⟩) n ccap) := ⟨_, rfl⟩
 rw [← hW] at HF ⊢
 clear x1 x2 x3 x4 p1 p2 p3 p4
 obtain ⟨q0, q1, -, -⟩ := HF.box 7 rfl
 refine bodyPost_ret (v := .agg #[.slice (some ⟨kb, ko, none⟩) k.length kcap, .slice (some ⟨cb, co, none⟩) n ccap]) (by simp [results, Try.results145, go_sem, q0, q1]) rfl ?_
 have hi := HI.out.1
 have eK : (K.set i (.slice xa1 (kx.length + 1) xcap1, .slice xca1 nx xccap1)).set (i + 1) (.slice (some ⟨yb, yo + 1, none⟩) (ky.length - 1) (ycap - 1), .slice ya1 ny yccap1) = pre.map KidT.pair ++ (.slice xa1 (kx.length + 1) xcap1, .slice xca1 nx xccap1) :: (.slice (some ⟨yb, yo + 1, none⟩) (ky.length - 1) (ycap - 1), .slice ya1 ny yccap1) :: post.map KidT.pair := by
   rw [HI.out.2.1, hi, show pre.length = (pre.map KidT.pair).length by simp]
   exact set_mid _ _ _ _ _ _
 rw [eK] at HF
 have eO : pre ++ ((kidsx ++ kidsy.take 1) ++ kidsy.drop 1) ++ post = pre ++ (kidsx ++ kidsy) ++ post := by rw [List.append_assoc kidsx, List.take_append_drop]
 obtain ⟨F', hT, hF', hKF⟩ := twoShut (F := F) (k := k.set i top) (kx := kx ++ [mid]) (ky := ky.drop 1) (pre := pre) (post := post) (kidsx := kidsx ++ kidsy.take 1) (kidsy := kidsy.drop 1) HF rfl rfl rfl rfl rfl rfl (by rw [eO]; exact HALL.out.1) (by rw [eO]; exact HALL.out.2.1) HALL.out.2.2
 refine ⟨_, _, F', rfl, ?_, hF', hKF⟩
 have e1 : Tr.oneMore (kidsx.map KidT.t) (kidsy.map KidT.t) = (kidsx ++ kidsy.take 1).map KidT.t := by
   unfold Tr.oneMore
   cases kidsy with
   | nil => simp
   | cons z zs => simp [Tr.kidAt]
 rw [e1, ← List.map_drop]
 exact hT
end Go.Proofs.Ytananonjomfpkaa
/- The model's l3Put. -/
namespace Go.Proofs.Ytananonjomfpkaa
open Go.RowKit
theorem IntsAt.part {w : World} {b o n : Nat} {ks : List Int} (h : ∀ i, i < ks.length → w.cell? ⟨b, o + i, none⟩ = some (.int .i64 (ks.getD i 0))) (lo hi cap : Nat) (h1 : lo ≤ hi) (h2 : hi ≤ ks.length) (hn : n = hi - lo) :
   IntsAt w (.slice (some ⟨b, o + lo, none⟩) n cap) ((ks.drop lo).take (hi - lo)) := by
 have hl : ((ks.drop lo).take (hi - lo)).length = hi - lo := by simp; omega
 refine ⟨some ⟨b, o + lo, none⟩, cap, by rw [hl, hn], by simp, .inr ⟨b, o + lo, rfl, fun i hi' => ?_⟩⟩
 rw [hl] at hi'
 rw [show o + lo + i = o + (lo + i) by omega, h (lo + i) (by omega)]
 simp [List.getD_eq_getElem?_getD, hi']
theorem IntsAt.none' {w : World} (a : Option Addr) (cap : Nat) (h : a = none → cap = 0) : IntsAt w (.slice a 0 cap) [] := ⟨a, cap, rfl, h, .inl rfl⟩
set_option maxRecDepth 100000 in
set_option maxHeartbeats 2000000 in
theorem l3Put_c (w : World) (B : Nat) (v : Value) (k : List Int) (i : Nat) (key : Int) (hk : IntsIn w B v k) (hB : B ≤ w.heap.size) (hi : i ≤ k.length) (hn : k.length ≤ 1048576) :
   Calls Try.prog 136 #[v, .int .i64 i, .int .i64 key] w fun e w' => ∃ v', e = .returned v' ∧ IntsOwn w' w.heap.size v' (putAt k i key) ∧ Below w.heap.size w w' := by
 obtain ⟨a, cap, rfl, h1, h2, h3, h4⟩ := hk
 unfold maxLen at h2
 obtain ⟨W1, hW1⟩ : ∃ W1, W1 = w.alloc (.cells #[] 3) := ⟨_, rfl⟩
 have hs1 : W1.heap.size = w.heap.size + 1 := by rw [hW1]; simp
 have hb1 : Below w.heap.size w W1 := by rw [hW1]; exact (Below.refl _ _).alloc (Nat.le_refl _) _
 have h00 : IntsOwn W1 w.heap.size (.slice (some ⟨w.heap.size, 0, none⟩) 0 0) [] := by rw [hW1]; exact World.ownsRow_made w #[] 0 (Nat.le_refl _) (by unfold maxLen; omega) rfl
 have hfront : ∀ W, Below w.heap.size w W → IntsAt W (.slice a i cap) (k.take i) := fun W hb => by
   rcases h4 with h4 | ⟨b, o, rfl, h5, h6⟩
   · have e : i = 0 := by rw [h4] at hi; simpa using hi
     rw [e, List.take_zero]
     exact IntsAt.none' a cap h3
   · have h := IntsAt.part (w := W) (b := b) (o := o) (n := i) (ks := k) (fun j hj => by rw [below_cell hb (by omega)]; exact h6 j hj) 0 i cap (by omega) hi (by omega)
     simpa using h
 have hback : ∀ W, Below w.heap.size w W → ∀ a' c', (i < k.length → (∃ b o, a = some ⟨b, o, none⟩ ∧ a' = some ⟨b, o + i, none⟩)) → (a' = none → c' = 0) → IntsAt W (.slice a' (k.length - i) c') (k.drop i) := fun W hb a' c' ha hc => by
   by_cases hik : i < k.length
   · obtain ⟨b, o, rfl, rfl⟩ := ha hik
     rcases h4 with h4 | ⟨b', o', e, h5, h6⟩
     · rw [h4] at hik; simp at hik
     · simp only [Option.some.injEq, Addr.mk.injEq, and_true] at e
       obtain ⟨rfl, rfl⟩ := e
       have h := IntsAt.part (w := W) (b := b) (o := o) (n := k.length - i) (ks := k) (fun j hj => by rw [below_cell hb (by omega)]; exact h6 j hj) i k.length c' (by omega) (Nat.le_refl _) rfl
       rwa [List.take_of_length_le (by simp)] at h
   · rw [show k.length - i = 0 by omega, List.drop_eq_nil_of_le (by omega)]
     exact IntsAt.none' a' c' hc
 have hsome : i < k.length → ∃ b o, a = some ⟨b, o, none⟩ := fun h => by
   rcases h4 with h4 | ⟨b, o, e, _⟩
   · rw [h4] at h; simp at h
   · exact ⟨b, o, e⟩
 have HW1 := Lib.hid hW1
 have H1 := Lib.hid (And.intro hb1 (And.intro h00 hs1))
 have HF := Lib.hid hfront
 have HBK := Lib.hid hback
 have HS := Lib.hid (And.intro hsome h3)
 have hlen1 : (([] : List Int).length + (k.take i).length) ≤ 17592186044416 := by simp; omega
 have HLEN := Lib.hid hlen1
 clear hW1 hs1 hb1 h00 hfront hback h4 hsome hlen1 h3
 go_enter Try.func136, Try.ntmps136
 go_upto_region 1 with (fail)
 go_upto_region 2 with (at_builtin; rw [← HW1.out]; refine wpList_append_ints rfl _ _ rfl w.heap.size _ _ [] (k.take i) rfl H1.out.2.1 rfl (HF.out _ H1.out.1) HLEN.out (by have := H1.out.2.2; omega) ?_; intro v2 w2 hown2 hbel2 _ hsh2; obtain ⟨a2, c2, rfl⟩ := hsh2; generalize hL2 : ([] : List Int) ++ k.take i = L2 at hown2 ⊢; have H2 := Lib.hid (And.intro hown2 (And.intro (H1.out.1.trans hbel2) hL2)); clear hown2 hbel2 hL2)
 have hs2 := H2.out.2.1.size
 have hl2 : L2.length ≤ 1048576 := by rw [← H2.out.2.2]; simp; omega
 have HL2 := Lib.hid hl2
 clear hl2
 go_upto_region 3 with (at_builtin; refine wpList_append_ints rfl _ _ rfl w.heap.size _ _ L2 [key] rfl (IntsOwn.alloc' H2.out.1 _) rfl (IntsAt.one w2 key) (by have := HL2.out; simp; omega) (by simp; omega) ?_; intro v3 w3 hown3 hbel3 _ hsh3; obtain ⟨a3, c3, rfl⟩ := hsh3; generalize hL3 : L2 ++ [key] = L3 at hown3 ⊢; have H3 := Lib.hid (And.intro hown3 (And.intro ((H2.out.2.1.alloc hs2 _).trans hbel3) hL3)); clear hown3 hbel3 hL3)
 have hs3 := H3.out.2.1.size
 have hl3 : L3.length ≤ 1048577 := by rw [← H3.out.2.2]; have := HL2.out; simp; omega
 have HL3 := Lib.hid hl3
 clear hl3
 have hii : (i : Int) ≤ (k.length : Int) := by omega
 have hfin : ∀ v' w', IntsOwn w' w.heap.size v' (L3 ++ k.drop i) → IntsOwn w' w.heap.size v' (putAt k i key) := fun v' w' h => by
   rw [← H3.out.2.2, ← H2.out.2.2] at h
   simpa [putAt] using h
 have HFIN := Lib.hid hfin
 clear hfin
 by_cases hik : i < k.length
 · obtain ⟨b, o, rfl⟩ := HS.out.1 hik
   have hci : ¬ cap = i := by omega
   go_wp2_with (at_builtin; refine wpList_append_ints rfl _ _ rfl w.heap.size _ _ L3 (k.drop i) rfl H3.out.1 rfl (HBK.out _ H3.out.2.1 _ _ (fun h => ⟨b, o, rfl, rfl⟩) (fun h => by simp at h)) (by have := HL3.out; simp; omega) (by omega) ?_; intro v4 w4 hown4 hbel4 _ hsh4; obtain ⟨a4, c4, rfl⟩ := hsh4; generalize hL4 : L3 ++ k.drop i = L4 at hown4 ⊢; have H4 := Lib.hid (And.intro hown4 (And.intro (H3.out.2.1.trans hbel4) hL4)); clear hown4 hbel4 hL4)
   go_ret
   exact ⟨_, rfl, HFIN.out _ _ (by rw [H4.out.2.2]; exact H4.out.1), H4.out.2.1⟩
 · have hd : k.drop i = [] := List.drop_eq_nil_of_le (by omega)
   have HD := Lib.hid hd
   clear hd
   obtain rfl : i = k.length := by omega
   by_cases hci : cap = k.length
   · subst hci
     go_wp2_with (at_builtin; refine wpList_append_ints rfl _ _ rfl w.heap.size _ _ L3 [] rfl H3.out.1 rfl (IntsAt.none' _ _ (fun _ => rfl)) (by have := HL3.out; simp; omega) (by omega) ?_; intro v4 w4 hown4 hbel4 _ hsh4; obtain ⟨a4, c4, rfl⟩ := hsh4; generalize hL4 : L3 ++ ([] : List Int) = L4 at hown4 ⊢; have H4 := Lib.hid (And.intro hown4 (And.intro (H3.out.2.1.trans hbel4) hL4)); clear hown4 hbel4 hL4)
     go_ret
     exact ⟨_, rfl, HFIN.out _ _ (by rw [HD.out, H4.out.2.2]; exact H4.out.1), H4.out.2.1⟩
   · rcases a with _ | ⟨b, o, sp⟩
     · have := HS.out.2 rfl; omega
     · go_wp2_with (at_builtin; refine wpList_append_ints rfl _ _ rfl w.heap.size _ _ L3 [] rfl H3.out.1 rfl (IntsAt.none' _ _ (fun h => by simp at h)) (by have := HL3.out; simp; omega) (by omega) ?_; intro v4 w4 hown4 hbel4 _ hsh4; obtain ⟨a4, c4, rfl⟩ := hsh4; generalize hL4 : L3 ++ ([] : List Int) = L4 at hown4 ⊢; have H4 := Lib.hid (And.intro hown4 (And.intro (H3.out.2.1.trans hbel4) hL4)); clear hown4 hbel4 hL4)
       go_ret
       exact ⟨_, rfl, HFIN.out _ _ (by rw [HD.out, H4.out.2.2]; exact H4.out.1), H4.out.2.1⟩
end Go.Proofs.Ytananonjomfpkaa
/- The model's l4Kids: kids without the one at a place. -/
namespace Go.Proofs.Ytananonjomfpkaa
open Go.RowKit
theorem step_append_trees {w : World} {ops : Array Oper} {o : Oper} {a : Act} {K : Act → World → Prop} {Q : Exit → Act → World → Prop} {E : Prop} (hgd : o.guard = none) (s x : Operand)
   (ho : o.op = .call { callee := .builtin .append, args := #[s, x], argTypes := #[24, 24] })
   (lo : Nat) (v y : Value) (L M : List (Value × Value)) (hs : a.eval s = v) (hown : TreesOwn w lo v L) (hx : a.eval x = y) (hsrc : KidsAt w y M) (h1 : ∀ u, u ∈ flatT M → u.oneCell' = true)
   (hlen : L.length + M.length ≤ 100000000) (hlo : lo ≤ w.heap.size)
   (h : ∀ v' w', TreesOwn w' lo v' (L ++ M) → Below lo w w' → w.grownBy w' v.ownBlock → (∃ a c, v' = .slice a (L ++ M).length c) → K (a.put o.dst v') w') :
   if Region.wanted o (yielded ops a.tmps) = true then Oper.wp Try.prog o a w K Q else E := by
 have hw : Region.wanted o (yielded ops a.tmps) = true := by simp [Region.wanted, hgd]
 rw [if_pos hw]
 obtain ⟨i0, hi, hz0, hz1, hz2⟩ := info_parts Try.infoTree
 obtain ⟨pa, cap, rfl, hnl, hat⟩ := hsrc
 rcases pa with _ | p
 · obtain rfl := hnl rfl
   obtain rfl : M = [] := by
     rcases hat with h | ⟨b, o, h, _⟩
     · exact h
     · cases h
   have hk := h v w (by simpa using hown) (Below.refl _ _) (World.grownBy.refl _ _) (by simpa using TreesOwn.shown hown)
   have hrun := run_append_owned_none (P := Try.prog) (w := w) lo 24 o.type 26 i0 2 Try.underlying24 hi v _ _ hown
   unfold Oper.wp
   simp only [List.length_nil] at hx
   simp [execOp, ho, resolve, invoke, builtin, hs, hx, hrun, Result.andThen]
   exact hk
 · refine wp_append_own w s x 24 ho lo 26 i0 _ 2 48 Try.underlying24 hi hz0 hz1 hz2 rfl (by decide) v _ _ hs hown p M.length cap (flatT M) hx (flatT_length M) (fun j u hj => ?_) h1 (by unfold maxLen; omega) (by omega) hlo (fun v' w' hown' hgrow _ => ?_)
   · rcases hat with h | ⟨b, o, h, hc⟩
     · rw [h] at hj; simp [flatT] at hj
     · cases h
       rw [Addr.add_lit]
       exact hc j u hj
   · have hown2 : TreesOwn w' lo v' (L ++ M) := by
       unfold TreesOwn
       rw [List.length_append, flatT_append]
       exact hown'
     exact h v' w' hown2 ((Below.refl lo w).grown hgrow hlo (fun k hk => (hown.lt k hk).1)) hgrow (TreesOwn.shown hown2)
theorem made1T (w : World) : TreesOwn (w.alloc (.cells #[] 26)).drew w.heap.size (.slice (some ⟨w.heap.size, 0, none⟩) 0 0) [] := World.ownsRow_made w #[] 0 (Nat.le_refl _) (by unfold maxLen; omega) rfl
set_option maxRecDepth 100000 in
set_option maxHeartbeats 4000000 in
theorem l4Kids_c (w : World) (b o cap : Nat) (k : List (Value × Value)) (i : Nat) (h6 : ∀ W, Below w.heap.size w W → ∀ j u, (flatT k)[j]? = some u → W.cell? ⟨b, o + j, none⟩ = some u) (hone : ∀ u, u ∈ flatT k → u.oneCell' = true)
   (h1 : k.length ≤ cap) (h2 : cap ≤ maxLen) (hi : i < k.length) (hn : k.length ≤ 1048576) :
   Calls Try.prog 163 #[.slice (some ⟨b, o, none⟩) k.length cap, .int .i64 i] w fun e w' => ∃ v', e = .returned v' ∧ TreesOwn w' w.heap.size v' (takeAt k i) ∧ Below w.heap.size w w' := by
 unfold maxLen at h2
 have hfront : ∀ W, Below w.heap.size w W → KidsAt W (.slice (some ⟨b, o, none⟩) i cap) (k.take i) := fun W hb => by
   have h := KidsAt.part (w := W) (b := b) (o := o) (n := i) (K := k) (h6 W hb) 0 i cap (by omega) (by omega) (by omega)
   simpa using h
 obtain ⟨J, hJ⟩ : ∃ J, J = i + 1 := ⟨_, rfl⟩
 have hback : ∀ W, Below w.heap.size w W → ∀ c', KidsAt W (.slice (some ⟨b, o + J * 2, none⟩) (k.length - J) c') (k.drop J) := fun W hb c' => by
   have h := KidsAt.part (w := W) (b := b) (o := o) (n := k.length - J) (K := k) (h6 W hb) J k.length c' (by omega) (Nat.le_refl _) rfl
   rwa [List.take_of_length_le (by simp)] at h
 have h1f : ∀ u, u ∈ flatT (k.take i) → u.oneCell' = true := fun u hu => hone u (by rw [flatT_take] at hu; exact List.mem_of_mem_take hu)
 have h1b : ∀ u, u ∈ flatT (k.drop J) → u.oneCell' = true := fun u hu => hone u (by rw [flatT_drop] at hu; exact List.mem_of_mem_drop hu)
 have HF := Lib.hid hfront
 have HBK := Lib.hid hback
 have H1C := Lib.hid (And.intro h1f h1b)
 have HL0 := Lib.hid (show (([] : List (Value × Value)).length + (k.take i).length) ≤ 100000000 by simp; omega)
 have HBW := Lib.hid (show Below w.heap.size w (w.alloc (.cells #[] 26)).drew from ((Below.refl w.heap.size w).alloc (Nat.le_refl _) _).drew)
 clear hfront hback h6 h1f h1b hone
 have hii : (i : Int) ≤ (k.length : Int) := by omega
 have hi1 : (J : Int) ≤ (k.length : Int) := by omega
 have hwm : IntKind.i64.wrap ((i : Int) + 1) = (J : Int) := by rw [IntKind.wrap_i64]; omega
 have hj0 : (0 : Int) ≤ (J : Int) := by omega
 have hij : (i : Int) ≤ (J : Int) := by omega
 have HJ := Lib.hid hJ
 have hic : (i : Int) ≤ (cap : Int) := by omega
 have hkc : (k.length : Int) ≤ (cap : Int) := by omega
 clear hJ
 go_enter Try.func163, Try.ntmps163
 go_upto_region 1 with (fail)
 by_cases hik : J < k.length
 · have hci : ¬ cap = J := by omega
   go_region_law
     (first
       | ((refine step_append_trees (by rfl) (.tmp 9) (.tmp 13) (by rfl) w.heap.size (.slice a3 L3.length c3) (.slice _ _ _) L3 (k.drop J) (by rfl) H3.out.1 (by rfl) (HBK.out _ H3.out.2.2 _) H1C.out.2 (by have h1 := H3.out.2.1; rw [← h1]; simp; omega) H3.out.2.2.size ?_; intro v5 w5 hown5 hbel5 hgrow5 hsh5; obtain ⟨a5, c5, rfl⟩ := hsh5; generalize hL5 : L3 ++ k.drop J = L5 at hown5 ⊢; have H5 := Lib.hid (And.intro hown5 (And.intro hL5 (H3.out.2.2.trans hbel5))); clear hown5 hbel5 hgrow5 hL5))
       | ((refine step_append_trees (by rfl) (.tmp 5) (.tmp 8) (by rfl) w.heap.size (.slice (some ⟨_, 0, none⟩) 0 0) (.slice _ i _) [] (k.take i) (by rfl) (made1T w) (by rfl) (HF.out _ HBW.out) H1C.out.1 HL0.out (by simp <;> omega) ?_; intro v3 w3 hown3 hbel3 hgrow3 hsh3; obtain ⟨a3, c3, rfl⟩ := hsh3; generalize hL3 : ([] : List (Value × Value)) ++ k.take i = L3 at hown3 ⊢; have H3 := Lib.hid (And.intro hown3 (And.intro hL3 (HBW.out.trans hbel3))); clear hown3 hbel3 hgrow3 hL3))
       | fail)
   all_goals (
     go_wp2_with fail
     go_ret
     have hfin : ∀ v' w', TreesOwn w' w.heap.size v' L5 → TreesOwn w' w.heap.size v' (takeAt k i) := fun v' w' h => by rw [← H5.out.2.1, ← H3.out.2.1] at h; unfold takeAt; rw [← HJ.out]; simpa using h
     exact ⟨_, rfl, hfin _ _ H5.out.1, H5.out.2.2⟩)
 · have hd : k.drop J = [] := List.drop_eq_nil_of_le (by omega)
   have HD := Lib.hid hd
   clear hd
   have hkl : k.length = J := by omega
   have HKL := Lib.hid hkl
   by_cases hci : cap = J
   · have hci' := hci.symm
     clear hci
     subst hci'
     go_region_law
       (first
         | ((refine step_append_trees (by rfl) (.tmp 9) (.tmp 13) (by rfl) w.heap.size (.slice a3 L3.length c3) (.slice _ _ _) L3 (k.drop J) (by rfl) H3.out.1 (by rfl) (by rw [HD.out]; first | exact KidsAt.none' _ _ (fun h => by first | rfl | simp | simp at h) | (rw [show k.length - J = 0 by (have := HKL.out; omega)]; exact KidsAt.none' _ _ (fun h => by first | rfl | simp | simp at h))) H1C.out.2 (by have h1 := H3.out.2.1; rw [← h1]; simp; omega) H3.out.2.2.size ?_; intro v5 w5 hown5 hbel5 hgrow5 hsh5; obtain ⟨a5, c5, rfl⟩ := hsh5; generalize hL5 : L3 ++ k.drop J = L5 at hown5 ⊢; have H5 := Lib.hid (And.intro hown5 (And.intro hL5 (H3.out.2.2.trans hbel5))); clear hown5 hbel5 hgrow5 hL5))
         | ((refine step_append_trees (by rfl) (.tmp 5) (.tmp 8) (by rfl) w.heap.size (.slice (some ⟨_, 0, none⟩) 0 0) (.slice _ i _) [] (k.take i) (by rfl) (made1T w) (by rfl) (HF.out _ HBW.out) H1C.out.1 HL0.out (by simp <;> omega) ?_; intro v3 w3 hown3 hbel3 hgrow3 hsh3; obtain ⟨a3, c3, rfl⟩ := hsh3; generalize hL3 : ([] : List (Value × Value)) ++ k.take i = L3 at hown3 ⊢; have H3 := Lib.hid (And.intro hown3 (And.intro hL3 (HBW.out.trans hbel3))); clear hown3 hbel3 hgrow3 hL3))
         | fail)
     all_goals (
       go_wp2_with fail
       go_ret
       have hfin : ∀ v' w', TreesOwn w' w.heap.size v' L5 → TreesOwn w' w.heap.size v' (takeAt k i) := fun v' w' h => by rw [← H5.out.2.1, ← H3.out.2.1] at h; unfold takeAt; rw [← HJ.out]; simpa using h
       exact ⟨_, rfl, hfin _ _ H5.out.1, H5.out.2.2⟩)
   · go_region_law
       (first
         | ((refine step_append_trees (by rfl) (.tmp 9) (.tmp 13) (by rfl) w.heap.size (.slice a3 L3.length c3) (.slice _ _ _) L3 (k.drop J) (by rfl) H3.out.1 (by rfl) (by rw [HD.out]; first | exact KidsAt.none' _ _ (fun h => by first | rfl | simp | simp at h) | (rw [show k.length - J = 0 by (have := HKL.out; omega)]; exact KidsAt.none' _ _ (fun h => by first | rfl | simp | simp at h))) H1C.out.2 (by have h1 := H3.out.2.1; rw [← h1]; simp; omega) H3.out.2.2.size ?_; intro v5 w5 hown5 hbel5 hgrow5 hsh5; obtain ⟨a5, c5, rfl⟩ := hsh5; generalize hL5 : L3 ++ k.drop J = L5 at hown5 ⊢; have H5 := Lib.hid (And.intro hown5 (And.intro hL5 (H3.out.2.2.trans hbel5))); clear hown5 hbel5 hgrow5 hL5))
         | ((refine step_append_trees (by rfl) (.tmp 5) (.tmp 8) (by rfl) w.heap.size (.slice (some ⟨_, 0, none⟩) 0 0) (.slice _ i _) [] (k.take i) (by rfl) (made1T w) (by rfl) (HF.out _ HBW.out) H1C.out.1 HL0.out (by simp <;> omega) ?_; intro v3 w3 hown3 hbel3 hgrow3 hsh3; obtain ⟨a3, c3, rfl⟩ := hsh3; generalize hL3 : ([] : List (Value × Value)) ++ k.take i = L3 at hown3 ⊢; have H3 := Lib.hid (And.intro hown3 (And.intro hL3 (HBW.out.trans hbel3))); clear hown3 hbel3 hgrow3 hL3))
         | fail)
     all_goals (
       go_wp2_with fail
       go_ret
       have hfin : ∀ v' w', TreesOwn w' w.heap.size v' L5 → TreesOwn w' w.heap.size v' (takeAt k i) := fun v' w' h => by rw [← H5.out.2.1, ← H3.out.2.1] at h; unfold takeAt; rw [← HJ.out]; simpa using h
       exact ⟨_, rfl, hfin _ _ H5.out.1, H5.out.2.2⟩)
end Go.Proofs.Ytananonjomfpkaa

/- The model's l4Join: a kid and the one behind it become one. -/
import Derived.Test.YtananonjomfpkaaQgS7
import Derived.Test.YtananonjomfpkaaQg25
/- The model's l4Right: a key for a kid from the kid ahead of it. -/
namespace Go.Proofs.Ytananonjomfpkaa
open Go.RowKit
set_option maxRecDepth 100000 in
set_option maxHeartbeats 4000000 in
theorem l4Right_c (w : World) (F CH : Cells) (kv cv : Value) (k : List Int) (pre post : List KidT) (xk xc : Value) (kx : List Int) (kidsx : List KidT) (yk yc : Value) (ky : List Int) (kidsy : List KidT)
   (ho : OpenTwo w F CH kv cv k pre post xk xc kx kidsx yk yc ky kidsy) (hik : pre.length < k.length) (hx1 : 0 < kx.length) (hxc : kidsx.length = 0 ∨ kidsx.length = kx.length + 1)
   (hn1 : kx.length ≤ 100000) (hm1 : ky.length ≤ 100000) (hx2 : kidsx.length ≤ 100000) (hy2 : kidsy.length ≤ 100000) (hn2 : k.length ≤ 100000) (hn3 : pre.length + post.length ≤ 100000) :
   Calls Try.prog 144 #[.agg #[kv, cv], .int .i64 (pre.length + 1 : Nat)] w
     (Wrought w F (.mk (k.set pre.length (kx.getD (kx.length - 1) 0)) (pre.map KidT.t ++ .mk (kx.take (kx.length - 1)) ((kidsx.map KidT.t).take kx.length) :: .mk (k.getD pre.length 0 :: ky) (Tr.oneFirst (kidsx.map KidT.t) (kidsy.map KidT.t) kx.length) :: post.map KidT.t))) := by
 obtain ⟨⟨Fk, Fc, F2, F3, F4, F5, HR⟩, hall, hap, hCH⟩ := ho
 obtain ⟨i, hi⟩ : ∃ i, i = pre.length := ⟨_, rfl⟩
 rw [← hi] at hik ⊢
 obtain ⟨K, hK⟩ : ∃ K, K = pre.map KidT.pair ++ (xk, xc) :: (yk, yc) :: post.map KidT.pair := ⟨_, rfl⟩
 rw [← hK] at HR
 obtain ⟨n, hn⟩ : ∃ n, n = K.length := ⟨_, rfl⟩
 have hlen : i + 1 < n := by rw [hn, hK]; simp; omega
 have hn4 : n ≤ 100002 := by rw [hn, hK]; simp; omega
 have r0 : RowN w Fk 1 kv k.length (k.map (Value.int .i64)) := HR.row 0 _ rfl
 have r1 : RowN w Fc 2 cv K.length (flatT K) := HR.row 1 _ rfl
 have r2 : RowN w F2 1 xk kx.length (kx.map (Value.int .i64)) := HR.row 2 _ rfl
 have r3 : RowN w F3 2 xc (kidsx.map KidT.pair).length (flatT (kidsx.map KidT.pair)) := HR.row 3 _ rfl
 have r4 : RowN w F4 1 yk ky.length (ky.map (Value.int .i64)) := HR.row 4 _ rfl
 have r5 : RowN w F5 2 yc (kidsy.map KidT.pair).length (flatT (kidsy.map KidT.pair)) := HR.row 5 _ rfl
 obtain ⟨kb, ko, kcap, rfl, k1, k2⟩ := r0.addr (by omega)
 obtain ⟨cb, co, ccap, rfl, c1, c2⟩ := r1.addr (by omega)
 obtain ⟨yka, ycap, rfl⟩ := r4.shown
 obtain ⟨xb, xo, xcap, rfl, y1, y2⟩ := r2.addr (by omega)
 obtain ⟨ya, yccap, rfl⟩ := r5.shown
 obtain ⟨xca, xccap, rfl⟩ := r3.shown
 rw [← hn] at HR ⊢
 simp only [List.length_map] at HR hK r3 r5 ⊢
 have hyaddr : kidsx.length ≠ 0 → ∃ b o, xca = some ⟨b, o, none⟩ ∧ kidsx.length ≤ xccap ∧ xccap ≤ maxLen := fun h0 => by
   obtain ⟨b, o, c, e, h1, h2⟩ := r3.addr (by omega)
   simp only [Value.slice.injEq, true_and] at e
   obtain ⟨rfl, rfl⟩ := e
   exact ⟨b, o, rfl, h1, h2⟩
 obtain ⟨l, hl⟩ : ∃ l, l = kx.length - 1 := ⟨_, rfl⟩
 have hll : l + 1 = kx.length := by omega
 obtain ⟨W1, hW1⟩ : ∃ W1, W1 = (w.alloc (.cells #[.slice (some ⟨kb, ko, none⟩) k.length kcap, .slice (some ⟨cb, co, none⟩) n ccap] 26)).alloc (.cells #[.slice none 0 0, .slice none 0 0] 26) := ⟨_, rfl⟩
 have H1 := (HR.newBox (.slice (some ⟨kb, ko, none⟩) k.length kcap) (.slice (some ⟨cb, co, none⟩) n ccap) 26).newBox (.slice none 0 0) (.slice none 0 0) 26
 rw [← hW1] at H1
 rw [show (w.alloc (.cells #[.slice (some ⟨kb, ko, none⟩) k.length kcap, .slice (some ⟨cb, co, none⟩) n ccap] 26)).heap.size = w.heap.size + 1 by simp] at H1
 simp only [sixD, List.cons_append, List.nil_append] at H1
 have hcx : K[i]? = some (.slice (some ⟨xb, xo, none⟩) kx.length xcap, .slice xca kidsx.length xccap) := by rw [hK, hi]; simp
 have hcy : K[i + 1]? = some (.slice yka ky.length ycap, .slice ya kidsy.length yccap) := by rw [hK, hi]; simp [List.getElem?_append_right]
 obtain ⟨x1, x2, x3, x4⟩ := H1.box 6 rfl
 obtain ⟨p1, p2, p3, p4⟩ := H1.treeAt 1 rfl i _ hcx
 obtain ⟨q1, q2, q3, q4⟩ := H1.treeAt 1 rfl (i + 1) _ hcy
 dsimp only at p1 p2 q1 q2
 obtain ⟨mid, hmid⟩ : ∃ z, z = k.getD i 0 := ⟨_, rfl⟩
 obtain ⟨top, htop⟩ : ∃ z, z = kx.getD l 0 := ⟨_, rfl⟩
 rw [← hl, ← hmid, ← htop]
 have hin : (i : Int) < (n : Int) := by omega
 have hin2 : (i : Int) + 1 < (n : Int) := by omega
 have hin3 : ((i + 1 : Nat) : Int) < (n : Int) := by omega
 have hiK : (i : Int) < (k.length : Int) := by omega
 have hi0' : (0 : Int) ≤ (i : Int) := by omega
 have hi1' : (0 : Int) ≤ (i : Int) + 1 := by omega
 have hwr : IntKind.i64.wrap (((i + 1 : Nat) : Int) - 1) = (i : Int) := by rw [IntKind.wrap_i64]; omega
 have hwr2 : IntKind.i64.wrap (i : Int) = (i : Int) := by rw [IntKind.wrap_i64]; omega
 have hwr3 : IntKind.i64.wrap ((i : Int) + 1 - 1) = (i : Int) := by rw [IntKind.wrap_i64]; omega
 have hwl : IntKind.i64.wrap ((kx.length : Int) - 1) = (l : Int) := by rw [IntKind.wrap_i64]; omega
 have hwl1 : IntKind.i64.wrap ((l : Int) + 1) = ((l + 1 : Nat) : Int) := by rw [IntKind.wrap_i64]; omega
 have hlk : (l : Int) < (kx.length : Int) := by omega
 have hlc : (l : Int) ≤ (xcap : Int) := by omega
 have HLL := Lib.hid hll
 clear hll
 have HW1 := Lib.hid hW1
 have HH1 := Lib.hid H1
 have HALL := Lib.hid (And.intro hall (And.intro hap hCH))
 have HI := Lib.hid (And.intro hi (And.intro hK (And.intro hn (And.intro hmid (And.intro htop hl)))))
 have HYA := Lib.hid hyaddr
 clear H1 hW1 hall hap hCH hi hK HR hn r0 r1 r2 r3 r4 r5 hcx hcy hmid htop hyaddr hl
 unfold maxLen at k2 c2 y2
 go_enter Try.func144, Try.ntmps144
 go_upto_region 1 with (fail)
 rw [← HW1.out]
 go_cut [5, 6] from 8 (fun s5 s6 wc => ∃ p q, s5 = .pointer (some ⟨p, 0, none⟩) ∧ s6 = .pointer (some ⟨q, 0, none⟩) ∧ HeldR w CH wc [intsD Fk (.slice (some ⟨kb, ko, none⟩) k.length kcap) (k), treesD Fc (.slice (some ⟨cb, co, none⟩) n ccap) (K), intsD F2 (.slice (some ⟨xb, xo, none⟩) kx.length xcap) (kx), treesD F3 (.slice xca kidsx.length xccap) (kidsx.map KidT.pair), intsD F4 (.slice yka ky.length ycap) (ky), treesD F5 (.slice ya kidsy.length yccap) (kidsy.map KidT.pair), boxD (w.heap.size) (.slice (some ⟨kb, ko, none⟩) k.length kcap) (.slice (some ⟨cb, co, none⟩) n ccap), boxD (w.heap.size + 1) (.slice none 0 0) (.slice none 0 0), boxD (p) (.slice (some ⟨xb, xo, none⟩) kx.length xcap) (.slice xca kidsx.length xccap), boxD (q) (.slice yka ky.length ycap) (.slice ya kidsy.length yccap)])
 case first =>
   go_region_held3 (fun x => x.cell? ⟨w.heap.size, 1, none⟩ = some (.slice (some ⟨cb, co, none⟩) n ccap) ∧ x.cell? ⟨cb, co + i * 2, none⟩ = some (.slice (some ⟨xb, xo, none⟩) kx.length xcap) ∧ x.cell? ⟨cb, co + i * 2 + 1, none⟩ = some (.slice xca kidsx.length xccap) ∧ x.cell? ⟨cb, co + (i + 1) * 2, none⟩ = some (.slice yka ky.length ycap) ∧ x.cell? ⟨cb, co + (i + 1) * 2 + 1, none⟩ = some (.slice ya kidsy.length yccap))
     (first | exact ⟨x2, p1, p2, q1, q2⟩ | go_keep) (fail)
   all_goals (
     go_wp2_with fail
     go_meet
     first
       | exact ⟨_, _, rfl, rfl, (HH1.out.twoBoxes _ _ _ _ _ _).1⟩
       | exact ⟨_, _, rfl, rfl, (HH1.out.twoBoxes _ _ _ _ _ _).2⟩)
 case rest =>
 obtain ⟨p, q, rfl, rfl, H2⟩ := hcut
 clear x1 x2 x3 x4 p1 p2 p3 p4 q1 q2 q3 q4
 rename World => w2
 have HH2 := Lib.hid H2
 clear H2
 obtain ⟨x1, x2, x3, x4⟩ := HH2.out.box 6 rfl
 obtain ⟨p1, p2, p3, p4⟩ := HH2.out.box 8 rfl
 obtain ⟨r1, r2, r3, r4⟩ := HH2.out.box 9 rfl
 obtain ⟨q1, q2⟩ := HH2.out.intAt 0 rfl i hik
 rw [← HI.out.2.2.2.1] at q1
 have hput := l3Put_c w2.drew w2.heap.size (.slice yka ky.length ycap) ky 0 mid (rowF_in ((HH2.out.still (KeptF.drew _ _)).ints 4 rfl)) (Nat.le_refl _) (Nat.zero_le _) (by omega)
 have HPUT := Lib.hid hput
 clear hput
 go_upto_region 3 with (fail)
 go_cut [] from 8 (fun wc => ∃ G4 ya1 ycap1, HeldR w CH wc [intsD Fk (.slice (some ⟨kb, ko, none⟩) k.length kcap) (k), treesD Fc (.slice (some ⟨cb, co, none⟩) n ccap) (K), intsD F2 (.slice (some ⟨xb, xo, none⟩) kx.length xcap) (kx), treesD F3 (.slice xca kidsx.length xccap) (kidsx.map KidT.pair), intsD G4 (.slice ya1 (ky.length + 1) ycap1) (mid :: ky), treesD F5 (.slice ya kidsy.length yccap) (kidsy.map KidT.pair), boxD (w.heap.size) (.slice (some ⟨kb, ko, none⟩) k.length kcap) (.slice (some ⟨cb, co, none⟩) n ccap), boxD (w.heap.size + 1) (.slice none 0 0) (.slice none 0 0), boxD (p) (.slice (some ⟨xb, xo, none⟩) kx.length xcap) (.slice xca kidsx.length xccap), boxD (q) (.slice ya1 (ky.length + 1) ycap1) (.slice ya kidsy.length yccap)])
 case first =>
   go_region_law
     (first
       | (go_simp; go_at_call 136; refine HPUT.out.mono ?_; rintro e w3 ⟨v3, rfl, hown3, hb3⟩; obtain ⟨a3, c3, rfl⟩ := IntsOwn.shown hown3; obtain ⟨G3, h3⟩ := (HH2.out.still (KeptF.drew _ _)).newInts 4 rfl hown3 hb3; obtain ⟨e1, e2, e3, e4⟩ := h3.box 9 rfl; have el : (putAt ky 0 mid).length = ky.length + 1 := (by simp [putAt]); rw [el] at h3 ⊢; have H3 := Lib.hid h3; clear h3 hown3 hb3 el)
       | fail)
   all_goals (
     go_wp2_with fail
     go_meet
     have h4 := H3.out.box0 9 rfl (.slice a3 (ky.length + 1) c3)
     rw [show putAt ky 0 mid = mid :: ky by simp [putAt]] at h4
     exact ⟨_, _, _, h4⟩)
 case rest =>
 obtain ⟨G4, ya1, ycap1, H3⟩ := hcut
 rename World => w3
 have HH3 := Lib.hid H3
 clear H3 HH2 HPUT x1 x2 x3 x4 p1 p2 p3 p4 q1 q2 r1 r2 r3 r4
 go_upto_region 4 with (fail)
 go_cut [] from 8 (fun wc => HeldR w CH wc [intsD Fk (.slice (some ⟨kb, ko, none⟩) k.length kcap) (k.set i top), treesD Fc (.slice (some ⟨cb, co, none⟩) n ccap) (K), intsD F2 (.slice (some ⟨xb, xo, none⟩) kx.length xcap) (kx), treesD F3 (.slice xca kidsx.length xccap) (kidsx.map KidT.pair), intsD G4 (.slice ya1 (ky.length + 1) ycap1) (mid :: ky), treesD F5 (.slice ya kidsy.length yccap) (kidsy.map KidT.pair), boxD (w.heap.size) (.slice (some ⟨kb, ko, none⟩) k.length kcap) (.slice (some ⟨cb, co, none⟩) n ccap), boxD (w.heap.size + 1) (.slice none 0 0) (.slice none 0 0), boxD (p) (.slice (some ⟨xb, xo, none⟩) kx.length xcap) (.slice xca kidsx.length xccap), boxD (q) (.slice ya1 (ky.length + 1) ycap1) (.slice ya kidsy.length yccap)])
 case first =>
   obtain ⟨x1, x2, x3, x4⟩ := HH3.out.box 6 rfl
   obtain ⟨p1, p2, p3, p4⟩ := HH3.out.box 8 rfl
   obtain ⟨q1, q2⟩ := HH3.out.intAt 2 rfl l (by omega)
   obtain ⟨q3, q4⟩ := HH3.out.intAt 0 rfl i hik
   rw [← HI.out.2.2.2.2.1] at q1
   go_region_law (fail)
   all_goals (
     go_wp2_with fail
     go_meet
     first
       | exact HH3.out.setInt 0 rfl i hik top
       | exact (HH3.out.setInt 0 rfl i hik top).still (KeptF.drew _ _))
 case rest =>
 rename World => w4
 have HH4 := Lib.hid hcut
 clear hcut HH3
 go_upto_region 5 with (fail)
 go_cut [] from 8 (fun wc => HeldR w CH wc [intsD Fk (.slice (some ⟨kb, ko, none⟩) k.length kcap) (k.set i top), treesD Fc (.slice (some ⟨cb, co, none⟩) n ccap) (K), intsD F2 (.slice (some ⟨xb, xo, none⟩) l xcap) (kx.take l), treesD F3 (.slice xca kidsx.length xccap) (kidsx.map KidT.pair), intsD G4 (.slice ya1 (ky.length + 1) ycap1) (mid :: ky), treesD F5 (.slice ya kidsy.length yccap) (kidsy.map KidT.pair), boxD (w.heap.size) (.slice (some ⟨kb, ko, none⟩) k.length kcap) (.slice (some ⟨cb, co, none⟩) n ccap), boxD (w.heap.size + 1) (.slice none 0 0) (.slice none 0 0), boxD (p) (.slice (some ⟨xb, xo, none⟩) l xcap) (.slice xca kidsx.length xccap), boxD (q) (.slice ya1 (ky.length + 1) ycap1) (.slice ya kidsy.length yccap)])
 case first =>
   obtain ⟨p1, p2, p3, p4⟩ := HH4.out.box 8 rfl
   go_wp2_with fail
   go_meet
   exact (HH4.out.takeInts 2 rfl l (by omega)).box0 8 rfl _
 case rest =>
 rename World => w5
 have HH5 := Lib.hid hcut
 clear hcut HH4
 obtain ⟨p1, p2, p3, p4⟩ := HH5.out.box 8 rfl
 go_upto_if 51 with (fail)
 clear p1 p2 p3 p4
 have hyone : ∀ u, u ∈ flatT (kidsy.map KidT.pair) → u.oneCell' = true := pairs_one (fun p hp => by
   obtain ⟨z, hz, rfl⟩ := List.mem_map.1 hp
   obtain ⟨a, n, c, a', n', c', h1, h2⟩ := (HALL.out.1 z (by simp [hz])).1.slices
   exact ⟨a, n, c, a', n', c', by simp [KidT.pair, h1, h2]⟩)
 have HONE := Lib.hid hyone
 clear hyone
 go_cut [] from 8 (fun wc => ∃ xca1 nx xccap1 G5 ya5 ny yccap1, HeldR w CH wc [intsD Fk (.slice (some ⟨kb, ko, none⟩) k.length kcap) (k.set i top), treesD Fc (.slice (some ⟨cb, co, none⟩) n ccap) (K), intsD F2 (.slice (some ⟨xb, xo, none⟩) l xcap) (kx.take l), treesD F3 (.slice xca1 nx xccap1) ((kidsx.take (l + 1)).map KidT.pair), intsD G4 (.slice ya1 (ky.length + 1) ycap1) (mid :: ky), treesD G5 (.slice ya5 ny yccap1) ((kidsx.drop (l + 1) ++ kidsy).map KidT.pair), boxD (w.heap.size) (.slice (some ⟨kb, ko, none⟩) k.length kcap) (.slice (some ⟨cb, co, none⟩) n ccap), boxD (w.heap.size + 1) (.slice none 0 0) (.slice none 0 0), boxD (p) (.slice (some ⟨xb, xo, none⟩) l xcap) (.slice xca1 nx xccap1), boxD (q) (.slice ya1 (ky.length + 1) ycap1) (.slice ya5 ny yccap1)])
 case first =>
   by_cases hx0 : kidsx.length = 0
   · have hx00 : kidsx = [] := List.eq_nil_of_length_eq_zero hx0
     have HX0 := Lib.hid hx00
     clear hx00
     go_wp2_with fail
     go_meet
     have hx00 := HX0.out
     subst hx00
     exact ⟨xca, 0, xccap, F5, ya, kidsy.length, yccap, by simpa using HH5.out⟩
   · obtain ⟨zb, zo, rfl, c7, c8⟩ := HYA.out hx0
     unfold maxLen at c8
     have hll := HLL.out
     have hxl : kidsx.length = l + 2 := by omega
     have hzl : l + 1 < kidsx.length := by omega
     obtain ⟨z, hz0⟩ : ∃ z, z = kidsx[l + 1] := ⟨_, rfl⟩
     have hzm : z ∈ kidsx := by rw [hz0]; exact List.getElem_mem _
     obtain ⟨za, zn, zc, za', zn', zc', hz1, hz2⟩ := (HALL.out.1 z (by simp [hzm])).1.slices
     have hp0 : (kidsx.map KidT.pair)[l + 1]? = some (.slice za zn zc, .slice za' zn' zc') := by
       rw [List.getElem?_map, List.getElem?_eq_getElem hzl, ← hz0]; simp [KidT.pair, hz1, hz2]
     obtain ⟨n1, n2, n3, n4⟩ := HH5.out.treeAt 3 rfl (l + 1) _ hp0
     obtain ⟨x1, x2, x3, x4⟩ := HH5.out.box 8 rfl
     obtain ⟨p1, p2, p3, p4⟩ := HH5.out.box 9 rfl
     dsimp only at n1 n2
     have h5a := HH5.out.still (KeptF.alloc _ w5 (.cells #[.slice za zn zc, .slice za' zn' zc'] 26))
     obtain ⟨a1, a2, a3, a4⟩ := h5a.box 9 rfl
     have hb5 : Below w5.heap.size w5 ((w5.alloc (.cells #[.slice za zn zc, .slice za' zn' zc'] 26)).drew) := ((Below.refl w5.heap.size w5).alloc (Nat.le_refl _) _).drew
     have hmade : TreesOwn ((w5.alloc (.cells #[.slice za zn zc, .slice za' zn' zc'] 26)).drew) w5.heap.size (.slice (some ⟨w5.heap.size, 0, none⟩) 1 1) [(.slice za zn zc, .slice za' zn' zc')] := ⟨rfl, .inr ⟨w5.heap.size, 1, #[.slice za zn zc, .slice za' zn' zc'], rfl, Nat.le_refl _, heap_alloc_new w5 _, Nat.le_refl _, by unfold maxLen; omega, rfl, rfl⟩⟩
     have hsrc5 : KidsAt ((w5.alloc (.cells #[.slice za zn zc, .slice za' zn' zc'] 26)).drew) (.slice ya kidsy.length yccap) (kidsy.map KidT.pair) := (HH5.out.still ((KeptF.alloc _ w5 _).trans (KeptF.drew _ _))).kidsAt 5 rfl
     have HM := Lib.hid (And.intro hmade (And.intro hb5 hsrc5))
     have HZ := Lib.hid (And.intro hz0 (And.intro hz1 hz2))
     have hli : ((l + 1 : Nat) : Int) < (kidsx.length : Int) := by omega
     have hli0 : (0 : Int) ≤ (l : Int) + 1 := by omega
     have hxp : 0 < kidsx.length := by omega
     have hli2 : (l : Int) + 1 < (kidsx.length : Int) := by omega
     have hxc2 : l + 1 ≤ xccap := by omega
     have HXL := Lib.hid hxl
     have HXC := Lib.hid hxc
     clear hll hxl hxc
     clear h5a hp0 hz1 hz2 hz0 hmade hb5 hsrc5
     go_upto_region 7 with (fail)
     go_cut [] from 8 (fun wc => ∃ G5 ya5 yccap1, HeldR w CH wc [intsD Fk (.slice (some ⟨kb, ko, none⟩) k.length kcap) (k.set i top), treesD Fc (.slice (some ⟨cb, co, none⟩) n ccap) (K), intsD F2 (.slice (some ⟨xb, xo, none⟩) l xcap) (kx.take l), treesD F3 (.slice (some ⟨zb, zo, none⟩) kidsx.length xccap) (kidsx.map KidT.pair), intsD G4 (.slice ya1 (ky.length + 1) ycap1) (mid :: ky), treesD G5 (.slice ya5 (kidsy.length + 1) yccap1) ([(.slice za zn zc, .slice za' zn' zc')] ++ kidsy.map KidT.pair), boxD (w.heap.size) (.slice (some ⟨kb, ko, none⟩) k.length kcap) (.slice (some ⟨cb, co, none⟩) n ccap), boxD (w.heap.size + 1) (.slice none 0 0) (.slice none 0 0), boxD (p) (.slice (some ⟨xb, xo, none⟩) l xcap) (.slice (some ⟨zb, zo, none⟩) kidsx.length xccap), boxD (q) (.slice ya1 (ky.length + 1) ycap1) (.slice ya5 (kidsy.length + 1) yccap1)])
     case first =>
       go_region_law
         (first
           | ((refine step_append_trees (by rfl) (.tmp 58) (.tmp 60) (by rfl) w5.heap.size (.slice (some ⟨w5.heap.size, 0, none⟩) 1 1) (.slice ya kidsy.length yccap) [(.slice za zn zc, .slice za' zn' zc')] (kidsy.map KidT.pair) (by rfl) HM.out.1 (by rfl) HM.out.2.2 HONE.out (by simp <;> omega) (by simp) ?_; intro v6 w6 hown6 hbel6 hgrow6 hsh6; obtain ⟨a6, c6, rfl⟩ := hsh6; obtain ⟨G6, h6⟩ := HH5.out.newTrees 5 rfl hown6 (HM.out.2.1.trans hbel6); obtain ⟨e1, e2, e3, e4⟩ := h6.box 9 rfl; have el : ([((.slice za zn zc : Value), (.slice za' zn' zc' : Value))] ++ kidsy.map KidT.pair).length = kidsy.length + 1 := (by simp <;> omega); rw [el] at h6 ⊢; have H6 := Lib.hid h6; clear h6 hown6 hbel6 hgrow6 el))
           | fail)
       all_goals (
         go_wp2_with fail
         go_meet
         have h7 := H6.out.box1 9 rfl (.slice a6 (kidsy.length + 1) c6)
         exact ⟨G6, a6, c6, h7⟩)
     case rest =>
     obtain ⟨G5, ya5, yccap1, H6⟩ := hcut
     rename World => w6
     have HH6 := Lib.hid H6
     clear H6 n1 n2 n3 n4 x1 x2 x3 x4 p1 p2 p3 p4 a1 a2 a3 a4
     obtain ⟨p1, p2, p3, p4⟩ := HH6.out.box 8 rfl
     have hlx : ((l + 1 : Nat) : Int) ≤ (xccap : Int) := by omega
     have hlx2 : (l : Int) + 1 ≤ (xccap : Int) := by omega
     go_wp2_with fail
     go_meet
     have h7 := (HH6.out.takeTrees 3 rfl (l + 1) (by rw [List.length_map]; omega)).box1 8 rfl (.slice (some ⟨zb, zo, none⟩) (l + 1) xccap)
     have e1 : (kidsx.drop (l + 1) ++ kidsy).map KidT.pair = [(.slice za zn zc, .slice za' zn' zc')] ++ kidsy.map KidT.pair := by
       rw [List.drop_eq_getElem_cons hzl, ← HZ.out.1, List.drop_eq_nil_of_le (by have := HXL.out; omega)]; simp [KidT.pair, HZ.out.2.1, HZ.out.2.2]
     rw [e1, List.map_take]
     exact ⟨some ⟨zb, zo, none⟩, l + 1, xccap, G5, ya5, kidsy.length + 1, yccap1, h7⟩
 case rest =>
 obtain ⟨xca1, nx, xccap1, G5, ya5, ny, yccap1, H7⟩ := hcut
 rename World => w7
 have HH7 := Lib.hid H7
 clear H7 HH5 HYA
 go_upto_region 9 with (fail)
 go_cut [] from 8 (fun wc => HeldR w CH wc [intsD Fk (.slice (some ⟨kb, ko, none⟩) k.length kcap) (k.set i top), treesD Fc (.slice (some ⟨cb, co, none⟩) n ccap) (K.set i (.slice (some ⟨xb, xo, none⟩) l xcap, .slice xca1 nx xccap1)), intsD F2 (.slice (some ⟨xb, xo, none⟩) l xcap) (kx.take l), treesD F3 (.slice xca1 nx xccap1) ((kidsx.take (l + 1)).map KidT.pair), intsD G4 (.slice ya1 (ky.length + 1) ycap1) (mid :: ky), treesD G5 (.slice ya5 ny yccap1) ((kidsx.drop (l + 1) ++ kidsy).map KidT.pair), boxD (w.heap.size) (.slice (some ⟨kb, ko, none⟩) k.length kcap) (.slice (some ⟨cb, co, none⟩) n ccap), boxD (w.heap.size + 1) (.slice none 0 0) (.slice none 0 0), boxD (p) (.slice (some ⟨xb, xo, none⟩) l xcap) (.slice xca1 nx xccap1), boxD (q) (.slice ya1 (ky.length + 1) ycap1) (.slice ya5 ny yccap1)])
 case first =>
   obtain ⟨x1, x2, x3, x4⟩ := HH7.out.box 6 rfl
   obtain ⟨p1, p2, p3, p4⟩ := HH7.out.box 8 rfl
   obtain ⟨q1, q2, q3, q4⟩ := HH7.out.treeAt 1 rfl i (.slice (some ⟨xb, xo, none⟩) kx.length xcap, .slice xca kidsx.length xccap) (by rw [HI.out.2.1, HI.out.1]; simp)
   go_wp2_with fail
   go_meet
   exact HH7.out.setTree 1 rfl i (by have := HI.out.2.2.1; omega) _ _
 case rest =>
 rename World => w8
 have HH8 := Lib.hid hcut
 clear hcut HH7
 go_upto_region 10 with (fail)
 go_cut [] from 8 (fun wc => HeldR w CH wc [intsD Fk (.slice (some ⟨kb, ko, none⟩) k.length kcap) (k.set i top), treesD Fc (.slice (some ⟨cb, co, none⟩) n ccap) ((K.set i (.slice (some ⟨xb, xo, none⟩) l xcap, .slice xca1 nx xccap1)).set (i + 1) (.slice ya1 (ky.length + 1) ycap1, .slice ya5 ny yccap1)), intsD F2 (.slice (some ⟨xb, xo, none⟩) l xcap) (kx.take l), treesD F3 (.slice xca1 nx xccap1) ((kidsx.take (l + 1)).map KidT.pair), intsD G4 (.slice ya1 (ky.length + 1) ycap1) (mid :: ky), treesD G5 (.slice ya5 ny yccap1) ((kidsx.drop (l + 1) ++ kidsy).map KidT.pair), boxD (w.heap.size) (.slice (some ⟨kb, ko, none⟩) k.length kcap) (.slice (some ⟨cb, co, none⟩) n ccap), boxD (w.heap.size + 1) (.slice none 0 0) (.slice none 0 0), boxD (p) (.slice (some ⟨xb, xo, none⟩) l xcap) (.slice xca1 nx xccap1), boxD (q) (.slice ya1 (ky.length + 1) ycap1) (.slice ya5 ny yccap1)])
 case first =>
   obtain ⟨x1, x2, x3, x4⟩ := HH8.out.box 6 rfl
   obtain ⟨p1, p2, p3, p4⟩ := HH8.out.box 9 rfl
   obtain ⟨q1, q2, q3, q4⟩ := HH8.out.treeAt 1 rfl (i + 1) (.slice yka ky.length ycap, .slice ya kidsy.length yccap) (by rw [List.getElem?_set_ne (by omega), HI.out.2.1, HI.out.1]; simp [List.getElem?_append_right])
   go_wp2_with fail
   go_meet
   exact HH8.out.setTree 1 rfl (i + 1) (by rw [List.length_set]; have := HI.out.2.2.1; omega) _ _
 case rest =>
 rename World => w9
 have HH9 := Lib.hid hcut
 clear hcut HH8
 obtain ⟨x1, x2, x3, x4⟩ := HH9.out.box 6 rfl
 obtain ⟨p1, p2, p3, p4⟩ := HH9.out.box 7 rfl
 go_wp2_with fail
 have HF := (HH9.out.box0 7 rfl (.slice (some ⟨kb, ko, none⟩) k.length kcap)).box1 7 rfl (.slice (some ⟨cb, co, none⟩) n ccap)
 obtain ⟨W, hW⟩ : ∃ W, W = (w9.setCell ⟨w.heap.size + 1, 0, none⟩ (.slice (some ⟨kb, ko, none⟩) k.length kcap)).setCell ⟨w.heap.size + 1, 1, none⟩ (.slice (some ⟨cb, co, none⟩) n ccap) := ⟨_, rfl⟩
 rw [← hW] at HF ⊢
 clear x1 x2 x3 x4 p1 p2 p3 p4
 obtain ⟨q0, q1, -, -⟩ := HF.box 7 rfl
 have hll := HLL.out
 refine bodyPost_ret (v := .agg #[.slice (some ⟨kb, ko, none⟩) k.length kcap, .slice (some ⟨cb, co, none⟩) n ccap]) (by simp [results, Try.results144, go_sem, q0, q1]) rfl ?_
 have hi := HI.out.1
 have eK : (K.set i (.slice (some ⟨xb, xo, none⟩) l xcap, .slice xca1 nx xccap1)).set (i + 1) (.slice ya1 (ky.length + 1) ycap1, .slice ya5 ny yccap1) = pre.map KidT.pair ++ (.slice (some ⟨xb, xo, none⟩) l xcap, .slice xca1 nx xccap1) :: (.slice ya1 (ky.length + 1) ycap1, .slice ya5 ny yccap1) :: post.map KidT.pair := by
   rw [HI.out.2.1, hi, show pre.length = (pre.map KidT.pair).length by simp]
   exact set_mid _ _ _ _ _ _
 rw [eK] at HF
 have eO : pre ++ (kidsx.take (l + 1) ++ (kidsx.drop (l + 1) ++ kidsy)) ++ post = pre ++ (kidsx ++ kidsy) ++ post := by rw [← List.append_assoc (kidsx.take (l + 1)), List.take_append_drop]
 obtain ⟨F', hT, hF', hKF⟩ := twoShut (F := F) (k := k.set i top) (kx := kx.take l) (ky := mid :: ky) (pre := pre) (post := post) (kidsx := kidsx.take (l + 1)) (kidsy := kidsx.drop (l + 1) ++ kidsy) HF rfl rfl rfl rfl rfl rfl (by rw [eO]; exact HALL.out.1) (by rw [eO]; exact HALL.out.2.1) HALL.out.2.2
 refine ⟨_, _, F', rfl, ?_, hF', hKF⟩
 have e1 : Tr.oneFirst (kidsx.map KidT.t) (kidsy.map KidT.t) kx.length = (kidsx.drop (l + 1) ++ kidsy).map KidT.t := by
   unfold Tr.oneFirst
   rw [List.length_map]
   by_cases h0 : kidsx.length = 0
   · rw [if_pos h0, List.eq_nil_of_length_eq_zero h0]; simp
   · rw [if_neg h0, List.drop_eq_getElem_cons (by omega), List.drop_eq_nil_of_le (by omega), Tr.kidAt_get (by rw [List.length_map]; omega)]
     simp [hll]
 rw [e1, ← hll, ← List.map_take]
 exact hT
end Go.Proofs.Ytananonjomfpkaa
/- The model's l4Less: a list of keys without the one at a place. -/
namespace Go.Proofs.Ytananonjomfpkaa
open Go.RowKit
set_option maxRecDepth 100000 in
set_option maxHeartbeats 4000000 in
theorem l4Less_c (w : World) (B : Nat) (v : Value) (k : List Int) (i : Nat) (hk : IntsIn w B v k) (hB : B ≤ w.heap.size) (hi : i < k.length) (hn : k.length ≤ 1048576) :
   Calls Try.prog 124 #[v, .int .i64 i] w fun e w' => ∃ v', e = .returned v' ∧ IntsOwn w' w.heap.size v' (takeAt k i) ∧ Below w.heap.size w w' := by
 obtain ⟨a, cap, rfl, h1, h2, h3, h4⟩ := hk
 unfold maxLen at h2
 rcases h4 with h4 | ⟨b, o, rfl, h5, h6⟩
 · rw [h4] at hi; simp at hi
 have hfront : ∀ W, Below w.heap.size w W → IntsAt W (.slice (some ⟨b, o, none⟩) i cap) (k.take i) := fun W hb => by
   have h := IntsAt.part (w := W) (b := b) (o := o) (n := i) (ks := k) (fun j hj => by rw [below_cell hb (by omega)]; exact h6 j hj) 0 i cap (by omega) (by omega) (by omega)
   simpa using h
 obtain ⟨J, hJ⟩ : ∃ J, J = i + 1 := ⟨_, rfl⟩
 have hback : ∀ W, Below w.heap.size w W → ∀ c', IntsAt W (.slice (some ⟨b, o + J, none⟩) (k.length - J) c') (k.drop J) := fun W hb c' => by
   have h := IntsAt.part (w := W) (b := b) (o := o) (n := k.length - J) (ks := k) (fun j hj => by rw [below_cell hb (by omega)]; exact h6 j hj) J k.length c' (by omega) (Nat.le_refl _) rfl
   rwa [List.take_of_length_le (by simp)] at h
 have HF := Lib.hid hfront
 have HBK := Lib.hid hback
 have HL0 := Lib.hid (show (([] : List Int).length + (k.take i).length) ≤ 17592186044416 by simp; omega)
 have HBW := Lib.hid (show Below w.heap.size w (w.alloc (.cells #[] 3)).drew from ((Below.refl w.heap.size w).alloc (Nat.le_refl _) _).drew)
 clear hfront hback h6 h5 h3
 have hii : (i : Int) ≤ (k.length : Int) := by omega
 have hi1 : (J : Int) ≤ (k.length : Int) := by omega
 have hwm : IntKind.i64.wrap ((i : Int) + 1) = (J : Int) := by rw [IntKind.wrap_i64]; omega
 have hj0 : (0 : Int) ≤ (J : Int) := by omega
 have hij : (i : Int) ≤ (J : Int) := by omega
 have HJ := Lib.hid hJ
 have hic : (i : Int) ≤ (cap : Int) := by omega
 have hkc : (k.length : Int) ≤ (cap : Int) := by omega
 clear hJ
 go_enter Try.func124, Try.ntmps124
 go_upto_region 1 with (fail)
 by_cases hik : J < k.length
 · have hci : ¬ cap = J := by omega
   go_region_law
     (first
       | ((refine step_append_ints (by rfl) (.tmp 9) (.tmp 13) (by rfl) w.heap.size (.slice a3 L3.length c3) (.slice _ _ _) L3 (k.drop J) (by rfl) H3.out.1 (by rfl) (HBK.out _ H3.out.2.2 _) (by have h1 := H3.out.2.1; rw [← h1]; simp; omega) H3.out.2.2.size ?_; intro v5 w5 hown5 hbel5 hgrow5 hsh5; obtain ⟨a5, c5, rfl⟩ := hsh5; generalize hL5 : L3 ++ k.drop J = L5 at hown5 ⊢; have H5 := Lib.hid (And.intro hown5 (And.intro hL5 (H3.out.2.2.trans hbel5))); clear hown5 hbel5 hgrow5 hL5))
       | ((refine step_append_ints (by rfl) (.tmp 5) (.tmp 8) (by rfl) w.heap.size (.slice (some ⟨_, 0, none⟩) 0 0) (.slice _ i _) [] (k.take i) (by rfl) (made1 w) (by rfl) (HF.out _ HBW.out) HL0.out (by simp <;> omega) ?_; intro v3 w3 hown3 hbel3 hgrow3 hsh3; obtain ⟨a3, c3, rfl⟩ := hsh3; generalize hL3 : ([] : List Int) ++ k.take i = L3 at hown3 ⊢; have H3 := Lib.hid (And.intro hown3 (And.intro hL3 (HBW.out.trans hbel3))); clear hown3 hbel3 hgrow3 hL3))
       | fail)
   all_goals (
     go_wp2_with fail
     go_ret
     have hfin : ∀ v' w', IntsOwn w' w.heap.size v' L5 → IntsOwn w' w.heap.size v' (takeAt k i) := fun v' w' h => by rw [← H5.out.2.1, ← H3.out.2.1] at h; unfold takeAt; rw [← HJ.out]; simpa using h
     exact ⟨_, rfl, hfin _ _ H5.out.1, H5.out.2.2⟩)
 · have hd : k.drop J = [] := List.drop_eq_nil_of_le (by omega)
   have HD := Lib.hid hd
   clear hd
   have hkl : k.length = J := by omega
   have HKL := Lib.hid hkl
   by_cases hci : cap = J
   · have hci' := hci.symm
     clear hci
     subst hci'
     go_region_law
       (first
         | ((refine step_append_ints (by rfl) (.tmp 9) (.tmp 13) (by rfl) w.heap.size (.slice a3 L3.length c3) (.slice _ _ _) L3 (k.drop J) (by rfl) H3.out.1 (by rfl) (by rw [HD.out]; first | exact IntsAt.none' _ _ (fun h => by first | rfl | simp | simp at h) | (rw [show k.length - J = 0 by (have := HKL.out; omega)]; exact IntsAt.none' _ _ (fun h => by first | rfl | simp | simp at h))) (by have h1 := H3.out.2.1; rw [← h1]; simp; omega) H3.out.2.2.size ?_; intro v5 w5 hown5 hbel5 hgrow5 hsh5; obtain ⟨a5, c5, rfl⟩ := hsh5; generalize hL5 : L3 ++ k.drop J = L5 at hown5 ⊢; have H5 := Lib.hid (And.intro hown5 (And.intro hL5 (H3.out.2.2.trans hbel5))); clear hown5 hbel5 hgrow5 hL5))
         | ((refine step_append_ints (by rfl) (.tmp 5) (.tmp 8) (by rfl) w.heap.size (.slice (some ⟨_, 0, none⟩) 0 0) (.slice _ i _) [] (k.take i) (by rfl) (made1 w) (by rfl) (HF.out _ HBW.out) HL0.out (by simp <;> omega) ?_; intro v3 w3 hown3 hbel3 hgrow3 hsh3; obtain ⟨a3, c3, rfl⟩ := hsh3; generalize hL3 : ([] : List Int) ++ k.take i = L3 at hown3 ⊢; have H3 := Lib.hid (And.intro hown3 (And.intro hL3 (HBW.out.trans hbel3))); clear hown3 hbel3 hgrow3 hL3))
         | fail)
     all_goals (
       go_wp2_with fail
       go_ret
       have hfin : ∀ v' w', IntsOwn w' w.heap.size v' L5 → IntsOwn w' w.heap.size v' (takeAt k i) := fun v' w' h => by rw [← H5.out.2.1, ← H3.out.2.1] at h; unfold takeAt; rw [← HJ.out]; simpa using h
       exact ⟨_, rfl, hfin _ _ H5.out.1, H5.out.2.2⟩)
   · go_region_law
       (first
         | ((refine step_append_ints (by rfl) (.tmp 9) (.tmp 13) (by rfl) w.heap.size (.slice a3 L3.length c3) (.slice _ _ _) L3 (k.drop J) (by rfl) H3.out.1 (by rfl) (by rw [HD.out]; first | exact IntsAt.none' _ _ (fun h => by first | rfl | simp | simp at h) | (rw [show k.length - J = 0 by (have := HKL.out; omega)]; exact IntsAt.none' _ _ (fun h => by first | rfl | simp | simp at h))) (by have h1 := H3.out.2.1; rw [← h1]; simp; omega) H3.out.2.2.size ?_; intro v5 w5 hown5 hbel5 hgrow5 hsh5; obtain ⟨a5, c5, rfl⟩ := hsh5; generalize hL5 : L3 ++ k.drop J = L5 at hown5 ⊢; have H5 := Lib.hid (And.intro hown5 (And.intro hL5 (H3.out.2.2.trans hbel5))); clear hown5 hbel5 hgrow5 hL5))
         | ((refine step_append_ints (by rfl) (.tmp 5) (.tmp 8) (by rfl) w.heap.size (.slice (some ⟨_, 0, none⟩) 0 0) (.slice _ i _) [] (k.take i) (by rfl) (made1 w) (by rfl) (HF.out _ HBW.out) HL0.out (by simp <;> omega) ?_; intro v3 w3 hown3 hbel3 hgrow3 hsh3; obtain ⟨a3, c3, rfl⟩ := hsh3; generalize hL3 : ([] : List Int) ++ k.take i = L3 at hown3 ⊢; have H3 := Lib.hid (And.intro hown3 (And.intro hL3 (HBW.out.trans hbel3))); clear hown3 hbel3 hgrow3 hL3))
         | fail)
     all_goals (
       go_wp2_with fail
       go_ret
       have hfin : ∀ v' w', IntsOwn w' w.heap.size v' L5 → IntsOwn w' w.heap.size v' (takeAt k i) := fun v' w' h => by rw [← H5.out.2.1, ← H3.out.2.1] at h; unfold takeAt; rw [← HJ.out]; simpa using h
       exact ⟨_, rfl, hfin _ _ H5.out.1, H5.out.2.2⟩)
end Go.Proofs.Ytananonjomfpkaa
/- The model's l4Join: a kid and the one behind it become one. -/
namespace Go.Proofs.Ytananonjomfpkaa
open Go.RowKit
theorem takeAt_set_mid {α : Type} (A B : List α) (x y u : α) : takeAt ((A ++ x :: y :: B).set A.length u) (A.length + 1) = A ++ u :: B := by
 rw [List.set_append_right _ _ (Nat.le_refl _), Nat.sub_self, List.set_cons_zero]
 unfold takeAt
 rw [show A ++ u :: y :: B = (A ++ [u]) ++ y :: B by simp, List.take_left' (by simp), show (A ++ [u]) ++ y :: B = (A ++ [u, y]) ++ B by simp, List.drop_left' (by simp)]
 simp
set_option maxRecDepth 100000 in
set_option maxHeartbeats 4000000 in
theorem l4Join_c (w : World) (F CH : Cells) (kv cv : Value) (k : List Int) (pre post : List KidT) (xk xc : Value) (kx : List Int) (kidsx : List KidT) (yk yc : Value) (ky : List Int) (kidsy : List KidT)
   (ho : OpenTwo w F CH kv cv k pre post xk xc kx kidsx yk yc ky kidsy) (hik : pre.length < k.length)
   (hn1 : kx.length ≤ 100000) (hm1 : ky.length ≤ 100000) (hx2 : kidsx.length ≤ 100000) (hy2 : kidsy.length ≤ 100000) (hn2 : k.length ≤ 100000) (hn3 : pre.length + post.length ≤ 100000) :
   Calls Try.prog 146 #[.agg #[kv, cv], .int .i64 pre.length] w
     (Wrought w F (.mk (takeAt k pre.length) (pre.map KidT.t ++ .mk (kx ++ k.getD pre.length 0 :: ky) (kidsx.map KidT.t ++ kidsy.map KidT.t) :: post.map KidT.t))) := by
 obtain ⟨⟨Fk, Fc, F2, F3, F4, F5, HR⟩, hall, hap, hCH⟩ := ho
 obtain ⟨i, hi⟩ : ∃ i, i = pre.length := ⟨_, rfl⟩
 rw [← hi] at hik ⊢
 obtain ⟨K, hK⟩ : ∃ K, K = pre.map KidT.pair ++ (xk, xc) :: (yk, yc) :: post.map KidT.pair := ⟨_, rfl⟩
 rw [← hK] at HR
 obtain ⟨n, hn⟩ : ∃ n, n = K.length := ⟨_, rfl⟩
 have hlen : i + 1 < n := by rw [hn, hK]; simp; omega
 have hn4 : n ≤ 100002 := by rw [hn, hK]; simp; omega
 have r0 : RowN w Fk 1 kv k.length (k.map (Value.int .i64)) := HR.row 0 _ rfl
 have r1 : RowN w Fc 2 cv K.length (flatT K) := HR.row 1 _ rfl
 have r2 : RowN w F2 1 xk kx.length (kx.map (Value.int .i64)) := HR.row 2 _ rfl
 have r3 : RowN w F3 2 xc (kidsx.map KidT.pair).length (flatT (kidsx.map KidT.pair)) := HR.row 3 _ rfl
 have r4 : RowN w F4 1 yk ky.length (ky.map (Value.int .i64)) := HR.row 4 _ rfl
 have r5 : RowN w F5 2 yc (kidsy.map KidT.pair).length (flatT (kidsy.map KidT.pair)) := HR.row 5 _ rfl
 obtain ⟨kb, ko, kcap, rfl, k1, k2⟩ := r0.addr (by omega)
 obtain ⟨cb, co, ccap, rfl, c1, c2⟩ := r1.addr (by omega)
 obtain ⟨yka, ycap, rfl⟩ := r4.shown
 obtain ⟨xa, xcap, rfl⟩ := r2.shown
 obtain ⟨ya, yccap, rfl⟩ := r5.shown
 obtain ⟨xca, xccap, rfl⟩ := r3.shown
 rw [← hn] at HR ⊢
 simp only [List.length_map] at HR hK r3 r5 ⊢
 obtain ⟨W1, hW1⟩ : ∃ W1, W1 = (w.alloc (.cells #[.slice (some ⟨kb, ko, none⟩) k.length kcap, .slice (some ⟨cb, co, none⟩) n ccap] 26)).alloc (.cells #[.slice none 0 0, .slice none 0 0] 26) := ⟨_, rfl⟩
 have H1 := (HR.newBox (.slice (some ⟨kb, ko, none⟩) k.length kcap) (.slice (some ⟨cb, co, none⟩) n ccap) 26).newBox (.slice none 0 0) (.slice none 0 0) 26
 rw [← hW1] at H1
 rw [show (w.alloc (.cells #[.slice (some ⟨kb, ko, none⟩) k.length kcap, .slice (some ⟨cb, co, none⟩) n ccap] 26)).heap.size = w.heap.size + 1 by simp] at H1
 simp only [sixD, List.cons_append, List.nil_append] at H1
 have hcx : K[i]? = some (.slice xa kx.length xcap, .slice xca kidsx.length xccap) := by rw [hK, hi]; simp
 have hcy : K[i + 1]? = some (.slice yka ky.length ycap, .slice ya kidsy.length yccap) := by rw [hK, hi]; simp [List.getElem?_append_right]
 obtain ⟨x1, x2, x3, x4⟩ := H1.box 6 rfl
 obtain ⟨p1, p2, p3, p4⟩ := H1.treeAt 1 rfl i _ hcx
 obtain ⟨q1, q2, q3, q4⟩ := H1.treeAt 1 rfl (i + 1) _ hcy
 dsimp only at p1 p2 q1 q2
 obtain ⟨mid, hmid⟩ : ∃ z, z = k.getD i 0 := ⟨_, rfl⟩
 rw [← hmid]
 have hin : (i : Int) < (n : Int) := by omega
 have hin2 : (i : Int) + 1 < (n : Int) := by omega
 have hin3 : ((i + 1 : Nat) : Int) < (n : Int) := by omega
 have hiK : (i : Int) < (k.length : Int) := by omega
 have hi0' : (0 : Int) ≤ (i : Int) := by omega
 have hi1' : (0 : Int) ≤ (i : Int) + 1 := by omega
 have hwr : IntKind.i64.wrap ((i : Int) + 1) = (i : Int) + 1 := IntWalk.i64_in _ (by omega)
 have HW1 := Lib.hid hW1
 have HH1 := Lib.hid H1
 have HALL := Lib.hid (And.intro hall (And.intro hap hCH))
 have HI := Lib.hid (And.intro hi (And.intro hK (And.intro hn hmid)))
 clear H1 hW1 hall hap hCH hi hK HR hn r0 r1 r2 r3 r4 r5 hcx hcy hmid
 unfold maxLen at k2 c2
 go_enter Try.func146, Try.ntmps146
 go_upto_region 1 with (fail)
 rw [← HW1.out]
 go_cut [5, 6] from 7 (fun s5 s6 wc => ∃ p q, s5 = .pointer (some ⟨p, 0, none⟩) ∧ s6 = .pointer (some ⟨q, 0, none⟩) ∧ HeldR w CH wc [intsD Fk (.slice (some ⟨kb, ko, none⟩) k.length kcap) (k), treesD Fc (.slice (some ⟨cb, co, none⟩) n ccap) (K), intsD F2 (.slice xa kx.length xcap) (kx), treesD F3 (.slice xca kidsx.length xccap) (kidsx.map KidT.pair), intsD F4 (.slice yka ky.length ycap) (ky), treesD F5 (.slice ya kidsy.length yccap) (kidsy.map KidT.pair), boxD (w.heap.size) (.slice (some ⟨kb, ko, none⟩) k.length kcap) (.slice (some ⟨cb, co, none⟩) n ccap), boxD (w.heap.size + 1) (.slice none 0 0) (.slice none 0 0), boxD (p) (.slice xa kx.length xcap) (.slice xca kidsx.length xccap), boxD (q) (.slice yka ky.length ycap) (.slice ya kidsy.length yccap)])
 case first =>
   go_region_held3 (fun x => x.cell? ⟨w.heap.size, 1, none⟩ = some (.slice (some ⟨cb, co, none⟩) n ccap) ∧ x.cell? ⟨cb, co + i * 2, none⟩ = some (.slice xa kx.length xcap) ∧ x.cell? ⟨cb, co + i * 2 + 1, none⟩ = some (.slice xca kidsx.length xccap) ∧ x.cell? ⟨cb, co + (i + 1) * 2, none⟩ = some (.slice yka ky.length ycap) ∧ x.cell? ⟨cb, co + (i + 1) * 2 + 1, none⟩ = some (.slice ya kidsy.length yccap))
     (first | exact ⟨x2, p1, p2, q1, q2⟩ | go_keep) (fail)
   all_goals (
     go_wp2_with fail
     go_meet
     first
       | exact ⟨_, _, rfl, rfl, (HH1.out.twoBoxes _ _ _ _ _ _).1⟩
       | exact ⟨_, _, rfl, rfl, (HH1.out.twoBoxes _ _ _ _ _ _).2⟩)
 case rest =>
 obtain ⟨p, q, rfl, rfl, H2⟩ := hcut
 clear x1 x2 x3 x4 p1 p2 p3 p4 q1 q2 q3 q4
 rename World => w2
 have HH2 := Lib.hid H2
 clear H2
 go_upto_region 2 with (fail)
 go_cut [] from 7 (fun wc => ∃ G2 xa1 xcap1, HeldR w CH wc [intsD Fk (.slice (some ⟨kb, ko, none⟩) k.length kcap) (k), treesD Fc (.slice (some ⟨cb, co, none⟩) n ccap) (K), intsD G2 (.slice xa1 (kx.length + 1 + ky.length) xcap1) ((kx ++ [mid]) ++ ky), treesD F3 (.slice xca kidsx.length xccap) (kidsx.map KidT.pair), intsD F4 (.slice yka ky.length ycap) (ky), treesD F5 (.slice ya kidsy.length yccap) (kidsy.map KidT.pair), boxD (w.heap.size) (.slice (some ⟨kb, ko, none⟩) k.length kcap) (.slice (some ⟨cb, co, none⟩) n ccap), boxD (w.heap.size + 1) (.slice none 0 0) (.slice none 0 0), boxD (p) (.slice xa1 (kx.length + 1 + ky.length) xcap1) (.slice xca kidsx.length xccap), boxD (q) (.slice yka ky.length ycap) (.slice ya kidsy.length yccap)])
 case first =>
   obtain ⟨x1, x2, x3, x4⟩ := HH2.out.box 6 rfl
   obtain ⟨p1, p2, p3, p4⟩ := HH2.out.box 8 rfl
   obtain ⟨r1, r2, r3, r4⟩ := HH2.out.box 9 rfl
   obtain ⟨q1, q2⟩ := HH2.out.intAt 0 rfl i hik
   rw [← HI.out.2.2.2] at q1
   have h2a := HH2.out.still (KeptF.alloc _ w2 (.cells #[.int .i64 mid] 3))
   obtain ⟨a1, a2, a3, a4⟩ := h2a.box 8 rfl
   obtain ⟨b1, b2, b3, b4⟩ := h2a.box 9 rfl
   clear h2a
   go_region_law
     (first
       | ((refine step_held_ints (by rfl) (.tmp 26) (.tmp 28) (by rfl) 2 G2 (.slice xa1 (kx.length + 1) xcap1) (kx ++ [mid]) H3.out rfl (by rfl) (.slice yka ky.length ycap) ky (by rfl) (H3.out.intsAt 4 rfl) (by simp <;> omega) ?_; intro xa2 xcap2 G3 w4 h4; obtain ⟨g1, g2, g3, g4⟩ := h4.box 8 rfl; have el : (kx ++ [mid]).length = kx.length + 1 := (by simp); rw [el] at h4 ⊢; have H4 := Lib.hid h4; clear h4 el))
       | ((refine step_held_ints (by rfl) (.tmp 19) (.tmp 25) (by rfl) 2 F2 (.slice xa kx.length xcap) kx (HH2.out.still (by exact (KeptF.alloc _ w2 _).trans (KeptF.drew _ _))) rfl (by rfl) (.slice (some ⟨w2.heap.size, 0, none⟩) 1 1) [mid] (by rfl) (by exact IntsAt.one w2 mid) (by simp; omega) ?_; intro xa1 xcap1 G2 w3 h3; obtain ⟨e1, e2, e3, e4⟩ := h3.box 8 rfl; obtain ⟨f1, f2, f3, f4⟩ := h3.box 9 rfl; have H3 := Lib.hid h3; clear h3))
       | fail)
   all_goals (
     go_wp2_with fail
     go_meet
     exact ⟨_, _, _, H4.out.box0 8 rfl _⟩)
 case rest =>
 obtain ⟨G2, xa1, xcap1, H3⟩ := hcut
 rename World => w3
 have HH3 := Lib.hid H3
 clear H3 HH2
 have hone : ∀ p, p ∈ kidsy.map KidT.pair → ∃ a n c a' n' c', p = (.slice a n c, .slice a' n' c') := fun p hp => by
   obtain ⟨z, hz, rfl⟩ := List.mem_map.1 hp
   obtain ⟨a, n, c, a', n', c', h1, h2⟩ := (HALL.out.1 z (by simp [hz])).1.slices
   exact ⟨a, n, c, a', n', c', by simp [KidT.pair, h1, h2]⟩
 have HONE := Lib.hid hone
 clear hone
 go_upto_region 3 with (fail)
 go_cut [] from 7 (fun wc => ∃ G3 xca1 xccap1, HeldR w CH wc [intsD Fk (.slice (some ⟨kb, ko, none⟩) k.length kcap) (k), treesD Fc (.slice (some ⟨cb, co, none⟩) n ccap) (K), intsD G2 (.slice xa1 (kx.length + 1 + ky.length) xcap1) ((kx ++ [mid]) ++ ky), treesD G3 (.slice xca1 (kidsx.length + kidsy.length) xccap1) (kidsx.map KidT.pair ++ kidsy.map KidT.pair), intsD F4 (.slice yka ky.length ycap) (ky), treesD F5 (.slice ya kidsy.length yccap) (kidsy.map KidT.pair), boxD (w.heap.size) (.slice (some ⟨kb, ko, none⟩) k.length kcap) (.slice (some ⟨cb, co, none⟩) n ccap), boxD (w.heap.size + 1) (.slice none 0 0) (.slice none 0 0), boxD (p) (.slice xa1 (kx.length + 1 + ky.length) xcap1) (.slice xca1 (kidsx.length + kidsy.length) xccap1), boxD (q) (.slice yka ky.length ycap) (.slice ya kidsy.length yccap)])
 case first =>
   obtain ⟨p1, p2, p3, p4⟩ := HH3.out.box 8 rfl
   obtain ⟨r1, r2, r3, r4⟩ := HH3.out.box 9 rfl
   go_wp2_with (at_builtin; refine wpList_held_trees rfl _ _ rfl 3 F3 (.slice xca kidsx.length xccap) (kidsx.map KidT.pair) HH3.out rfl rfl (.slice ya kidsy.length yccap) (kidsy.map KidT.pair) rfl (HH3.out.kidsAt 5 rfl) (pairs_one HONE.out) (by simp; omega) ?_; intro xca1 xccap1 G3 w4 h4; obtain ⟨e1, e2, e3, e4⟩ := h4.box 8 rfl; simp only [List.length_map] at h4 ⊢; have H4 := Lib.hid h4; clear h4)
   go_meet
   have h5 := H4.out.box1 8 rfl (.slice xca1 (kidsx.length + kidsy.length) xccap1)
   exact ⟨G3, xca1, xccap1, h5⟩
 case rest =>
 obtain ⟨G3, xca1, xccap1, H4⟩ := hcut
 rename World => w4
 have HH4 := Lib.hid H4
 clear H4 HH3
 go_upto_region 4 with (fail)
 go_cut [] from 7 (fun wc => HeldR w CH wc [intsD Fk (.slice (some ⟨kb, ko, none⟩) k.length kcap) (k), treesD Fc (.slice (some ⟨cb, co, none⟩) n ccap) (K.set i (.slice xa1 (kx.length + 1 + ky.length) xcap1, .slice xca1 (kidsx.length + kidsy.length) xccap1)), intsD G2 (.slice xa1 (kx.length + 1 + ky.length) xcap1) ((kx ++ [mid]) ++ ky), treesD G3 (.slice xca1 (kidsx.length + kidsy.length) xccap1) (kidsx.map KidT.pair ++ kidsy.map KidT.pair), intsD F4 (.slice yka ky.length ycap) (ky), treesD F5 (.slice ya kidsy.length yccap) (kidsy.map KidT.pair), boxD (w.heap.size) (.slice (some ⟨kb, ko, none⟩) k.length kcap) (.slice (some ⟨cb, co, none⟩) n ccap), boxD (w.heap.size + 1) (.slice none 0 0) (.slice none 0 0), boxD (p) (.slice xa1 (kx.length + 1 + ky.length) xcap1) (.slice xca1 (kidsx.length + kidsy.length) xccap1), boxD (q) (.slice yka ky.length ycap) (.slice ya kidsy.length yccap)])
 case first =>
   obtain ⟨x1, x2, x3, x4⟩ := HH4.out.box 6 rfl
   obtain ⟨p1, p2, p3, p4⟩ := HH4.out.box 8 rfl
   obtain ⟨q1, q2, q3, q4⟩ := HH4.out.treeAt 1 rfl i (.slice xa kx.length xcap, .slice xca kidsx.length xccap) (by rw [HI.out.2.1, HI.out.1]; simp)
   go_wp2_with fail
   go_meet
   exact HH4.out.setTree 1 rfl i (by have := HI.out.2.2.1; omega) _ _
 case rest =>
 rename World => w5
 have HH5 := Lib.hid hcut
 clear hcut HH4
 have eK : takeAt (K.set i (.slice xa1 (kx.length + 1 + ky.length) xcap1, .slice xca1 (kidsx.length + kidsy.length) xccap1)) (i + 1) = pre.map KidT.pair ++ (.slice xa1 (kx.length + 1 + ky.length) xcap1, .slice xca1 (kidsx.length + kidsy.length) xccap1) :: post.map KidT.pair := by
   rw [HI.out.2.1, HI.out.1, show pre.length = (pre.map KidT.pair).length by simp]
   exact takeAt_set_mid _ _ _ _ _
 have HK := Lib.hid eK
 obtain ⟨K6, hK6⟩ : ∃ K6, K6 = pre.map KidT.pair ++ (.slice xa1 (kx.length + 1 + ky.length) xcap1, .slice xca1 (kidsx.length + kidsy.length) xccap1) :: post.map KidT.pair := ⟨_, rfl⟩
 rw [← hK6] at eK
 have hcall := l4Kids_c w5 cb co ccap (K.set i (.slice xa1 (kx.length + 1 + ky.length) xcap1, .slice xca1 (kidsx.length + kidsy.length) xccap1)) (i + 1) (fun W hb j u hj => by
   obtain ⟨a, cap, hv, -, hat⟩ := (HH5.out.still (KeptF.of_below hb (Nat.le_refl _))).kidsAt 1 rfl
   simp only [Value.slice.injEq] at hv
   rcases hat with h | ⟨b, o, h, hc⟩
   · rw [h] at hj; simp [flatT] at hj
   · rw [← hv.1] at h
     injection h with h
     simp only [Addr.mk.injEq, and_true] at h
     obtain ⟨rfl, rfl⟩ := h
     exact hc j u hj) (pairs_one (fun p hp => by
   have h1 : ∀ z, z ∈ pre ∨ z ∈ post → ∃ a n c a' n' c', KidT.pair z = (.slice a n c, .slice a' n' c') := fun z hz => by
     obtain ⟨a, n, c, a', n', c', h1, h2⟩ := (HALL.out.1 z (by rcases hz with hz | hz <;> simp [hz])).1.slices
     exact ⟨a, n, c, a', n', c', by simp [KidT.pair, h1, h2]⟩
   rw [HI.out.2.1] at hp
   rcases List.mem_or_eq_of_mem_set hp with hp | rfl
   · simp only [List.mem_append, List.mem_cons, List.mem_map] at hp
     rcases hp with ⟨z, hz, rfl⟩ | rfl | rfl | ⟨z, hz, rfl⟩
     · exact h1 z (.inl hz)
     · exact ⟨_, _, _, _, _, _, rfl⟩
     · exact ⟨_, _, _, _, _, _, rfl⟩
     · exact h1 z (.inr hz)
   · exact ⟨_, _, _, _, _, _, rfl⟩)) (by rw [List.length_set, ← HI.out.2.2.1]; rw [← HI.out.2.2.1] at c1; exact c1) (by unfold maxLen; exact c2) (by rw [List.length_set, ← HI.out.2.2.1]; exact hlen) (by rw [List.length_set, ← HI.out.2.2.1]; omega)
 rw [List.length_set, ← HI.out.2.2.1, eK] at hcall
 have HCALL := Lib.hid hcall
 have HK6 := Lib.hid hK6
 clear hcall eK hK6
 go_upto_region 5 with (fail)
 go_cut [] from 7 (fun wc => ∃ G1 ca1 ccap1, HeldR w CH wc [intsD Fk (.slice (some ⟨kb, ko, none⟩) k.length kcap) (k), treesD G1 (.slice ca1 K6.length ccap1) (K6), intsD G2 (.slice xa1 (kx.length + 1 + ky.length) xcap1) ((kx ++ [mid]) ++ ky), treesD G3 (.slice xca1 (kidsx.length + kidsy.length) xccap1) (kidsx.map KidT.pair ++ kidsy.map KidT.pair), intsD F4 (.slice yka ky.length ycap) (ky), treesD F5 (.slice ya kidsy.length yccap) (kidsy.map KidT.pair), boxD (w.heap.size) (.slice (some ⟨kb, ko, none⟩) k.length kcap) (.slice ca1 K6.length ccap1), boxD (w.heap.size + 1) (.slice none 0 0) (.slice none 0 0), boxD (p) (.slice xa1 (kx.length + 1 + ky.length) xcap1) (.slice xca1 (kidsx.length + kidsy.length) xccap1), boxD (q) (.slice yka ky.length ycap) (.slice ya kidsy.length yccap)])
 case first =>
   obtain ⟨x1, x2, x3, x4⟩ := HH5.out.box 6 rfl
   go_wp2_with fail
   refine HCALL.out.mono ?_
   rintro e w6 ⟨v6, rfl, hown6, hb6⟩
   obtain ⟨a6, c6, rfl⟩ := TreesOwn.shown hown6
   obtain ⟨G1, h6⟩ := HH5.out.newTrees 1 rfl hown6 hb6
   clear x1 x2 x3 x4
   obtain ⟨x1, x2, x3, x4⟩ := h6.box 6 rfl
   obtain ⟨L6, hL6⟩ : ∃ L6, L6 = K6.length := ⟨_, rfl⟩
   rw [← hL6] at h6 ⊢
   have H6 := Lib.hid (And.intro h6 hL6)
   clear h6 hown6 hb6 hL6
   go_wp2_with fail
   go_meet
   have h7 := H6.out.1.box1 6 rfl (.slice a6 L6 c6)
   rw [← H6.out.2]
   exact ⟨G1, a6, c6, h7⟩
 case rest =>
 obtain ⟨G1, ca1, ccap1, H6⟩ := hcut
 rename World => w6
 have hcall := l4Less_c w6 w6.heap.size (.slice (some ⟨kb, ko, none⟩) k.length kcap) k i (rowF_in (H6.ints 0 rfl)) (Nat.le_refl _) hik (by omega)
 have HH6 := Lib.hid H6
 have HCALL2 := Lib.hid hcall
 clear H6 HH5 HCALL hcall
 go_upto_region 6 with (fail)
 go_cut [] from 7 (fun wc => ∃ G0 ka1 kcap1, HeldR w CH wc [intsD G0 (.slice ka1 (takeAt k i).length kcap1) (takeAt k i), treesD G1 (.slice ca1 K6.length ccap1) (K6), intsD G2 (.slice xa1 (kx.length + 1 + ky.length) xcap1) ((kx ++ [mid]) ++ ky), treesD G3 (.slice xca1 (kidsx.length + kidsy.length) xccap1) (kidsx.map KidT.pair ++ kidsy.map KidT.pair), intsD F4 (.slice yka ky.length ycap) (ky), treesD F5 (.slice ya kidsy.length yccap) (kidsy.map KidT.pair), boxD (w.heap.size) (.slice ka1 (takeAt k i).length kcap1) (.slice ca1 K6.length ccap1), boxD (w.heap.size + 1) (.slice none 0 0) (.slice none 0 0), boxD (p) (.slice xa1 (kx.length + 1 + ky.length) xcap1) (.slice xca1 (kidsx.length + kidsy.length) xccap1), boxD (q) (.slice yka ky.length ycap) (.slice ya kidsy.length yccap)])
 case first =>
   obtain ⟨x1, x2, x3, x4⟩ := HH6.out.box 6 rfl
   go_wp2_with fail
   refine HCALL2.out.mono ?_
   rintro e w7 ⟨v7, rfl, hown7, hb7⟩
   obtain ⟨a7, c7, rfl⟩ := IntsOwn.shown hown7
   obtain ⟨G0, h7⟩ := HH6.out.newInts 0 rfl hown7 hb7
   clear x1 x2 x3 x4
   obtain ⟨x1, x2, x3, x4⟩ := h7.box 6 rfl
   obtain ⟨L7, hL7⟩ : ∃ L7, L7 = (takeAt k i).length := ⟨_, rfl⟩
   rw [← hL7] at h7 ⊢
   have H7 := Lib.hid (And.intro h7 hL7)
   clear h7 hown7 hb7 hL7
   go_wp2_with fail
   go_meet
   have h8 := H7.out.1.box0 6 rfl (.slice a7 L7 c7)
   rw [← H7.out.2]
   exact ⟨G0, a7, c7, h8⟩
 case rest =>
 obtain ⟨G0, ka1, kcap1, H7⟩ := hcut
 rename World => w9
 obtain ⟨L6, hL6⟩ : ∃ L6, L6 = K6.length := ⟨_, rfl⟩
 obtain ⟨L7, hL7⟩ : ∃ L7, L7 = (takeAt k i).length := ⟨_, rfl⟩
 rw [← hL6, ← hL7] at H7
 have HH9 := Lib.hid H7
 clear H7 HH6 HCALL2 hL6 hL7
 obtain ⟨x1, x2, x3, x4⟩ := HH9.out.box 6 rfl
 obtain ⟨p1, p2, p3, p4⟩ := HH9.out.box 7 rfl
 go_wp2_with fail
 have HF := (HH9.out.box0 7 rfl (.slice ka1 L7 kcap1)).box1 7 rfl (.slice ca1 L6 ccap1)
 obtain ⟨W, hW⟩ : ∃ W, W = (w9.setCell ⟨w.heap.size + 1, 0, none⟩ (.slice ka1 L7 kcap1)).setCell ⟨w.heap.size + 1, 1, none⟩ (.slice ca1 L6 ccap1) := ⟨_, rfl⟩
 rw [← hW] at HF ⊢
 clear x1 x2 x3 x4 p1 p2 p3 p4
 obtain ⟨q0, q1, -, -⟩ := HF.box 7 rfl
 refine bodyPost_ret (v := .agg #[.slice ka1 L7 kcap1, .slice ca1 L6 ccap1]) (by simp [results, Try.results146, go_sem, q0, q1]) rfl ?_
 rw [HK6.out] at HF
 obtain ⟨F', hT, hF', hKF⟩ := oneShut (F := F) (k := takeAt k i) (kx := (kx ++ [mid]) ++ ky) (pre := pre) (post := post) (kidsx := kidsx ++ kidsy) (v2 := .slice xa1 (kx.length + 1 + ky.length) xcap1) (v3 := .slice xca1 (kidsx.length + kidsy.length) xccap1) HF rfl rfl rfl (by rw [List.map_append]; rfl) (by exact HALL.out.1) (by exact HALL.out.2.1) HALL.out.2.2
 refine ⟨_, _, F', rfl, ?_, hF', hKF⟩
 rw [List.map_append, List.append_assoc, List.singleton_append] at hT
 exact hT
end Go.Proofs.Ytananonjomfpkaa

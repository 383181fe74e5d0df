/- The contract of removeBelow at a node with kids, given what it does to the kid. -/
import Derived.Test.YtananonjomfpkaaQg30
namespace Go.Proofs.Ytananonjomfpkaa
open Go.RowKit
set_option maxRecDepth 100000 in
set_option maxHeartbeats 8000000 in
theorem removeInner_c (wide : Int) (hwide : 2 ≤ wide ∧ wide ≤ 6) (n : Nat) (key : Int) (k : List Int) (c : List Tr) (hN : (Tr.mk k c).weight ≤ 90000) (hlack : Tr.Lacks key (.mk k c)) (h0 : c.length ≠ 0)
   (IH : ∀ (key' : Int) (u : Tr), Tr.Lacks key' u → u.weight < (Tr.mk k c).weight → ∀ (w : World) (F : Cells) (b gb : Nat) (gn sh : Value) (bo jo : Nat), Nd w F b u → SBox w gb gn bo jo sh wide → (∀ o, ¬ F gb o) → bo + n ≤ 800000000 → jo + n ≤ 800000000 →
     Calls Try.prog 121 #[.pointer (some ⟨gb, 0, none⟩), .pointer (some ⟨b, 0, none⟩), .int .i64 key'] w (Repaired w F b gb gn (bo + (Tr.del (wide / 2) n key' u).b) (jo + (Tr.del (wide / 2) n key' u).j) sh wide (Tr.del (wide / 2) n key' u).t))
   (w : World) (F : Cells) (b gb : Nat) (gn sh : Value) (bo jo : Nat) (h : Nd w F b (.mk k c)) (hg : SBox w gb gn bo jo sh wide) (hgF : ∀ o, ¬ F gb o) (hbo : bo + (n + 1) ≤ 800000000) (hjo : jo + (n + 1) ≤ 800000000) :
   Calls Try.prog 121 #[.pointer (some ⟨gb, 0, none⟩), .pointer (some ⟨b, 0, none⟩), .int .i64 key] w
     (Repaired w F b gb gn (bo + (Tr.del (wide / 2) (n + 1) key (.mk k c)).b) (jo + (Tr.del (wide / 2) (n + 1) key (.mk k c)).j) sh wide (Tr.del (wide / 2) (n + 1) key (.mk k c)).t) := by
 obtain ⟨kids, Fk, Fc, kv, cv, rfl, hbox, hkr, hcr, hkids, sb, sk, sc, ss, ap, hlt⟩ := h.parts
 have hlk := hkr.1
 have hlc := hcr.1
 have hblt := (Array.getElem?_eq_some_iff.1 hbox).1
 have hglt := (Array.getElem?_eq_some_iff.1 hg).1
 have hs := sep_iff.1 ap
 have hgb : gb ≠ b := fun e => hgF 0 (e ▸ sb 0)
 obtain ⟨hkc1, hk1, hik, hlx⟩ := hlack.kid h0
 obtain ⟨i, hi⟩ : ∃ i, i = place key k := ⟨_, rfl⟩
 have hple := place_le key k
 have hsort := Tr.Well.keys hlack.1
 rw [← hi] at hik hlx hple
 rw [List.length_map] at hkc1 hik h0
 obtain ⟨pre, x, post, hkd, hpre⟩ : ∃ pre x post, kids = pre ++ x :: post ∧ pre.length = i :=
   ⟨kids.take i, kids[i], kids.drop (i + 1), by rw [← List.drop_eq_getElem_cons hik, List.take_append_drop], by simp; omega⟩
 obtain ⟨p, Fx, tx⟩ := x
 subst hkd
 have mx : (⟨p, Fx, tx⟩ : KidD) ∈ pre ++ (⟨p, Fx, tx⟩ : KidD) :: post := by simp
 have hkx : Tr.kidAt ((pre ++ (⟨p, Fx, tx⟩ : KidD) :: post).map KidD.t) i = tx := by
   rw [Tr.kidAt_get (by rw [List.length_map]; exact hik)]; simp [← hpre]
 rw [hkx] at hlx
 obtain ⟨NK, hNK⟩ : ∃ NK, NK = (pre ++ (⟨p, Fx, tx⟩ : KidD) :: post).length := ⟨_, rfl⟩
 obtain ⟨_, ka, kc, rfl, k1, k2, k3, k4⟩ := id hkr
 obtain ⟨_, ca, cc, rfl, c1, c2, c3, c4⟩ := id hcr
 rcases c4 with c4 | ⟨cb, co, rfl, c5, c6⟩
 · rw [c4, List.length_map] at c1; omega
 rcases k4 with k4 | ⟨kb, ko, rfl, k5, k6⟩
 · rw [k4, List.length_map] at k1; omega
 simp only [List.length_map] at hbox k1 c1 hkr hcr
 rw [← hNK] at hbox c1 hcr hkc1 hik h0
 unfold maxLen at k2 c2
 have hcell : w.cell? ⟨cb, co + i, none⟩ = some (.pointer (some ⟨p, 0, none⟩)) := by
   rw [c6 i (by rw [List.length_map, ← hNK]; exact hik)]
   simp [KidD.ptr, ← hpre]
 have htw : tx.weight < (Tr.mk k ((pre ++ (⟨p, Fx, tx⟩ : KidD) :: post).map KidD.t)).weight := by
   have h1 := Tr.weight_get_le ((pre ++ (⟨p, Fx, tx⟩ : KidD) :: post).map KidD.t) i (by rw [List.length_map, ← hNK]; exact hik)
   have h3 : ((pre ++ (⟨p, Fx, tx⟩ : KidD) :: post).map KidD.t)[i]'(by rw [List.length_map, ← hNK]; exact hik) = tx := by simp [← hpre]
   rw [h3] at h1
   have h4 : ((pre ++ (⟨p, Fx, tx⟩ : KidD) :: post).map KidD.t).length = NK := by rw [List.length_map, ← hNK]
   simp only [Tr.weight]
   omega
 have hkw : k.length + NK ≤ 90000 := by
   have := Tr.length_le_weights ((pre ++ (⟨p, Fx, tx⟩ : KidD) :: post).map KidD.t)
   simp only [Tr.weight, List.length_map, ← hNK] at hN this
   omega
 have hsz : ∀ z, z ∈ pre ++ (⟨p, Fx, tx⟩ : KidD) :: post → z.t.ks.length ≤ 100000 ∧ z.t.cs.length ≤ 100000 ∧ Tr.Shaped z.t := fun z hz => by
   obtain ⟨j, hj, rfl⟩ := List.getElem_of_mem hz
   have h1 := Tr.weight_get_le ((pre ++ (⟨p, Fx, tx⟩ : KidD) :: post).map KidD.t) j (by rw [List.length_map]; exact hj)
   have h2 := Tr.Well.kid hlack.1 j (by rw [List.length_map]; exact hj)
   rw [List.getElem_map] at h1 h2
   generalize ((pre ++ (⟨p, Fx, tx⟩ : KidD) :: post)[j]).t = u at h1 h2 ⊢
   have h3 := h2.fits
   obtain ⟨a, d⟩ := u
   have h4 := Tr.length_le_weights d
   simp only [Tr.weight] at h1 hN
   exact ⟨by show a.length ≤ _; omega, by show d.length ≤ _; omega, h3.2.1⟩
 have hin := rowF_in (k := k) hkr
 obtain ⟨half, hhalf⟩ : ∃ half, half = wide / 2 := ⟨_, rfl⟩
 have hd : Int.tdiv wide 2 = half := by rw [Int.tdiv_eq_ediv_of_nonneg (by omega), hhalf]
 have hh1 : 1 ≤ half ∧ half ≤ 3 := by omega
 have hwm : IntKind.i64.wrap (Int.tdiv wide 2) = half := by rw [hd, IntKind.wrap_i64]; omega
 rw [← hhalf] at IH ⊢
 obtain ⟨RR, hRR⟩ : ∃ RR, RR = Tr.del half (n + 1) key (.mk k ((pre ++ (⟨p, Fx, tx⟩ : KidD) :: post).map KidD.t)) := ⟨_, rfl⟩
 rw [← hRR]
 obtain ⟨x1, x2, x3, x4⟩ := box2 hbox
 have hl' : ((NK : Int) == 0) = false := by simpa using h0
 have HBOX := Lib.hid (And.intro hbox hg)
 have HR := Lib.hid (And.intro hkr hcr)
 have HK := Lib.hid (And.intro hkids (And.intro sb (And.intro sk (And.intro sc (And.intro ss hs)))))
 have HL := Lib.hid (And.intro hlk (And.intro hlc hlt))
 have HI := Lib.hid (And.intro hi (And.intro hkx (And.intro hNK hpre)))
 have HIH := Lib.hid IH
 have HW := Lib.hid (And.intro hlack (And.intro hlx htw))
 have HSORT := Lib.hid hsort
 have HIN := Lib.hid hin
 have HGF := Lib.hid hgF
 have HZ := Lib.hid (And.intro hsz hN)
 have HH := Lib.hid (And.intro hhalf hd)
 have HRR := Lib.hid hRR
 have HMX := Lib.hid mx
 have HC := Lib.hid (And.intro c5 (And.intro c6 (And.intro k5 (And.intro k6 hcell))))
 clear hlk hlc hlt hkr hcr hkids sb sk sc ss hs ap h hbox hg hi IH hlack hlx htw hsort hin hgF hsz hN hhalf hd hRR mx c5 c6 k5 k6 c3 k3 hcell hkx hNK hpre h0
 go_enter Try.func121, Try.ntmps121
 go_upto_region 0 with (fail)
 go_cut [6] from 7 to 15 (fun s6 wc => s6 = .int .i64 (i : Int) ∧ KeptF (fun _ _ => False) w wc)
 case first =>
   go_region_with (first
     | (go_at_call 70; refine (less_c key _).mono ?_; rintro e w9 ⟨rfl, rfl⟩)
     | (go_at_call 105; refine (place_less_c _ w.heap.size (HIN.out.later (C := w.heap.size) (((Below.refl w.heap.size w).drew).alloc (Nat.le_refl _) _) (Nat.le_refl _)) HSORT.out (by omega) key key (Lib.hid rfl) _ (box1 (new_blk w.drew _)).1).mono ?_; rintro e w9 ⟨rfl, rfl⟩))
   all_goals (
     go_wp2_with fail
     go_meet
     exact ⟨by rw [HI.out.1], (KeptF.alloc _ _ _).trans (KeptF.drew _ _)⟩)
 case rest =>
   obtain ⟨rfl, hkc⟩ := hcut
   have hsc := hkc.size
   have hbc := hkc.block' HBOX.out.1 (fun _ h => h)
   have hgc : SBox wc gb gn bo jo sh wide := hkc.block' HBOX.out.2 (fun _ h => h)
   have hkrc := HR.out.1.keep hkc (fun _ _ _ h => h)
   have hcrc := HR.out.2.keep hkc (fun _ _ _ h => h)
   have hkk : ∀ y, y ∈ pre ++ (⟨p, Fx, tx⟩ : KidD) :: post → Nd wc y.F y.p y.t := fun y hy => (HK.out.1 y hy).keep hkc (fun _ _ _ h => h)
   have hcc : wc.cell? ⟨cb, co + i, none⟩ = some (.pointer (some ⟨p, 0, none⟩)) := by
     have h5 := HC.out.1 i (by omega)
     rw [hkc.cell _ _ (lt_of_there h5.2.1) (fun h => h)]; exact HC.out.2.2.2.2
   have hhas := hasAt_c hbc (rowF_in (k := k) hkrc).at (by omega) i hple key
   clear x1 x2 x3 x4
   obtain ⟨x1, x2, x3, x4⟩ := box2 hbc
   have HKC := Lib.hid (And.intro hkc (And.intro hbc (And.intro hgc (And.intro hkrc (And.intro hcrc (And.intro hkk hcc))))))
   have HHAS := Lib.hid hhas
   clear hkc hbc hgc hkrc hcrc hkk hcc hhas
   go_wp2_with fail
   refine HHAS.out.mono ?_
   rintro e w2 ⟨rfl, rfl⟩
   by_cases ho : Tr.ownKey key k
   · have hod : decide (i < k.length ∧ k.getD i 0 = key) = true := by rw [HI.out.1]; exact decide_eq_true ho
     rw [hod]
     have HO := Lib.hid ho
     clear hod ho
     obtain ⟨top, htop⟩ : ∃ z, z = tx.greatest := ⟨_, rfl⟩
     have hlack : Tr.Lacks top tx := by have h := HW.out.2.1; rw [if_pos HO.out, ← htop] at h; exact h
     have hgr := greatest_c (HKC.out.2.2.2.2.2.1 _ HMX.out).nodeAt hlack.2.1 (by have h1 := HW.out.2.2; have h2 := HZ.out.2; show tx.weight ≤ _; omega) (Nat.le_refl _)
     dsimp only at hgr
     rw [← htop] at hgr
     have hikk : i < k.length := by rw [HI.out.1]; exact HO.out.1
     have hcellk := (HKC.out.2.2.2.1)
     have HGR := Lib.hid hgr
     have HLK := Lib.hid hlack
     have HTOP := Lib.hid htop
     have hcell0 := HKC.out.2.2.2.2.2.2
     clear hlack hgr htop hcellk
     go_wp2_with fail
     refine HGR.out.mono ?_
     rintro e w3 ⟨rfl, hb3⟩
     have hk3 : KeptF (fun _ _ => False) w2 w3 := KeptF.of_below hb3 (Nat.le_refl _)
     have hsz3 := hk3.size
     obtain ⟨hkc, hbc, hgc, hkrc, hcrc, hkk, hcc⟩ := HKC.out
     have hb3' := hk3.block' hbc (fun _ h => h)
     have hg3' : SBox w3 gb gn bo jo sh wide := hk3.block' hgc (fun _ h => h)
     have hkr3 := hkrc.keep hk3 (fun _ _ _ h => h)
     have hcr3 := hcrc.keep hk3 (fun _ _ _ h => h)
     have hkk3 : ∀ y, y ∈ pre ++ (⟨p, Fx, tx⟩ : KidD) :: post → Nd w3 y.F y.p y.t := fun y hy => (hkk y hy).keep hk3 (fun _ _ _ h => h)
     have hcc3 : w3.cell? ⟨cb, co + i, none⟩ = some (.pointer (some ⟨p, 0, none⟩)) := by
       rw [hk3.cell cb (co + i) (World.block_lt_of_cell? _ _ hcc) (fun h => h)]; exact hcc
     obtain ⟨kf1, kf2, kf3⟩ := HC.out.2.2.1 i (by omega)
     have hkbl := lt_of_there kf2
     have hke : w3.cell? ⟨kb, ko + i, none⟩ = some (.int .i64 (k.getD i 0)) := by
       rw [hk3.cell kb (ko + i) (by omega) (fun h => h), hkc.cell kb (ko + i) hkbl (fun h => h), HC.out.2.2.2.1 i (by simpa using hikk)]
       simp [hikk]
     have hkfr : w3.frozen? ⟨kb, ko + i, none⟩ = false := by
       rw [hk3.frozen kb (ko + i) (by omega), hkc.frozen kb (ko + i) hkbl]; exact kf3
     clear x1 x2 x3 x4 hcell0
     obtain ⟨x1, x2, x3, x4⟩ := box2 hb3'
     have H3 := Lib.hid (And.intro hk3 (And.intro hb3' (And.intro hg3' (And.intro hkr3 (And.intro hcr3 (And.intro hkk3 (And.intro hcc3 (And.intro kf1 hkc))))))))
     clear hb3 hk3 hkc hbc hgc hkrc hcrc hkk hcc hb3' hg3' hkr3 hcr3 hkk3 hcc3 kf1 kf2 kf3
     go_upto_region 6 with (fail)
     obtain ⟨W4, hW4⟩ : ∃ W4, W4 = w3.setCell ⟨kb, ko + i, none⟩ (.int .i64 top) := ⟨_, rfl⟩
     rw [← hW4]
     obtain ⟨hk3, hb3, hg3, hkr3, hcr3, hkk3, hcc3, kf1, hkc⟩ := H3.out
     have hs := HK.out.2.2.2.2.2
     have hk4 : KeptF (fun q r => q = kb ∧ r = ko + i) w3 W4 := by rw [hW4]; exact KeptF.setCell _ _ _ _ ⟨rfl, rfl⟩
     have hgk : gb ≠ kb := fun e => HGF.out (ko + i) (e ▸ HK.out.2.2.1 _ _ kf1)
     have hb4 := hk4.block' hb3 (fun q h => hs.bk b q rfl (by obtain ⟨e1, e2⟩ := h; rw [e1, e2]; exact kf1))
     have hg4 : SBox W4 gb gn bo jo sh wide := hk4.block' hg3 (fun q h => hgk h.1)
     have hkr4 : RowF W4 Fk (.slice (some ⟨kb, ko, none⟩) k.length kc) ((k.set i top).map (Value.int .i64)) := by
       rw [hW4, List.map_set]; exact hkr3.set i _ (by simpa using hikk)
     have hcr4 := hcr3.keep hk4 (fun q r h g => hs.kc _ _ kf1 (by obtain ⟨e1, e2⟩ := g; rw [← e1, ← e2]; exact h))
     have hkk4 : ∀ y, y ∈ pre ++ (⟨p, Fx, tx⟩ : KidD) :: post → Nd W4 y.F y.p y.t := fun y hy => (hkk3 y hy).keep hk4 (fun q r h g => hs.ks y hy _ _ kf1 (by obtain ⟨e1, e2⟩ := g; rw [← e1, ← e2]; exact h))
     have hcc4 : W4.cell? ⟨cb, co + i, none⟩ = some (.pointer (some ⟨p, 0, none⟩)) := by
       rw [hk4.cell cb (co + i) (World.block_lt_of_cell? _ _ hcc3) (fun g => hs.kc _ _ kf1 (by obtain ⟨e1, e2⟩ := g; rw [← e1, ← e2]; exact (HC.out.1 i (by omega)).1))]; exact hcc3
     have hkall : KeptF (fun q r => F q r ∨ q = gb) w W4 :=
       ((hkc.trans (hk3.mono (fun _ _ _ h => h.elim))).mono (fun _ _ _ h => h.elim)).trans (hk4.mono (fun q r _ h => .inl (.inl (by obtain ⟨e1, e2⟩ := h; rw [e1, e2]; exact HK.out.2.2.1 _ _ kf1))))
     clear x1 x2 x3 x4 hke hkfr
     obtain ⟨x1, x2, x3, x4⟩ := box2 hb4
     have hsz4' : w.heap.size ≤ W4.heap.size := hkall.size
     have HB := Lib.hid (And.intro hkall (And.intro hb4 (And.intro hg4 (And.intro hkr4 (And.intro hcr4 (And.intro hkk4 hcc4))))))
     clear hW4 hk3 hb3 hg3 hkr3 hcr3 hkk3 hcc3 kf1 hkc hs hk4 hgk hb4 hg4 hkr4 hcr4 hkk4 hcc4 hkall
     have hcall := HIH.out top tx HLK.out HW.out.2.2 W4 Fx p gb gn sh bo jo (HB.out.2.2.2.2.2.1 _ HMX.out) HB.out.2.2.1 (fun o h => HGF.out o (HK.out.2.2.2.2.1 _ HMX.out _ _ h)) (by omega) (by omega)
     have hless : Tr.Less (Tr.del half n top tx).t tx.ks tx.cs := by
       have hl := HLK.out
       cases n with
       | zero => obtain ⟨a, d⟩ := tx; exact ⟨hl.1.fits.2.1, Nat.le_refl _, Nat.le_refl _⟩
       | succ n => obtain ⟨a, d⟩ := tx; exact Tr.del_less n _ _ _ hl
     have hcount := Tr.del_count (half := half) n top tx
     obtain ⟨⟨⟨uk, uc⟩, rb, rj⟩, hr⟩ : ∃ r, r = Tr.del half n top tx := ⟨_, rfl⟩
     rw [← hr] at hcall hless hcount
     dsimp only at hcall hless hcount
     have hRR2 : RR = Tr.repair half (k.set i top) ((pre ++ (⟨p, Fx, .mk uk uc⟩ : KidD) :: post).map KidD.t) i rb rj := by
       have h1 := HRR.out
       have h2 : (((pre ++ (⟨p, Fx, tx⟩ : KidD) :: post).map KidD.t)).length ≠ 0 := by simp
       have h3 := HI.out.2.1
       have h4 : Tr.setKid ((pre ++ (⟨p, Fx, tx⟩ : KidD) :: post).map KidD.t) i (.mk uk uc) = (pre ++ (⟨p, Fx, .mk uk uc⟩ : KidD) :: post).map KidD.t := by
         rw [List.map_append, List.map_cons, show i = (pre.map KidD.t).length by rw [List.length_map, HI.out.2.2.2], Tr.setKid_mid]; simp
       rw [Tr.del_hit h2 HO.out, ← HI.out.1, h3, ← HTOP.out, ← hr] at h1
       dsimp only at h1
       rw [h4] at h1
       exact h1
     have HCALL := Lib.hid hcall
     have HLESS := Lib.hid hless
     have HRR2 := Lib.hid hRR2
     clear hcall hless hRR2 hr
     have hcell0 := HB.out.2.2.2.2.2.2
     go_wp2_with fail
     refine HCALL.out.mono ?_
     rintro e w5 ⟨FX, rfl, hndX, hFX, hk5, hg5⟩
     obtain ⟨hk4, hb4, hg4, hkr4, hcr4, hkk4, hcell4⟩ := HB.out
     obtain ⟨kidsX, FkX, FcX, kvX, cvX, _, hboxX, hkrX, _⟩ := hndX.parts
     obtain ⟨kaX, kcX, rfl⟩ := hkrX.shown
     rw [List.length_map] at hboxX
     have hsz4 := hk4.size
     have hsz5 := hk5.size
     have hs := HK.out.2.2.2.2.2
     have hgF := HGF.out
     have hb5 := hk5.block' hb4 (fun q h => h.elim (fun h => hs.bs _ HMX.out b q rfl h) (fun h => hgb h.symm))
     have hkr5 := hkr4.keep hk5 (fun q r h g => g.elim (fun g => hs.ks _ HMX.out q r h g) (fun g => hgF r (g ▸ HK.out.2.2.1 q r h)))
     have hcr5 := hcr4.keep hk5 (fun q r h g => g.elim (fun g => hs.cs _ HMX.out q r h g) (fun g => hgF r (g ▸ HK.out.2.2.2.1 q r h)))
     rw [show (pre ++ (⟨p, Fx, tx⟩ : KidD) :: post).map KidD.ptr = (pre ++ (⟨p, FX, .mk uk uc⟩ : KidD) :: post).map KidD.ptr by simp [KidD.ptr]] at hcr5
     have hcell5 : w5.cell? ⟨cb, co + i, none⟩ = some (.pointer (some ⟨p, 0, none⟩)) := by
       have h5 := HC.out.1 i (by omega)
       rw [hk5.cell cb (co + i) (World.block_lt_of_cell? _ _ hcell4) (fun g => g.elim (fun g => hs.cs _ HMX.out _ _ h5.1 g) (fun g => hgF _ (g ▸ HK.out.2.2.2.1 _ _ h5.1)))]
       exact hcell4
     have hkids5 : ∀ y, y ∈ pre ++ (⟨p, FX, .mk uk uc⟩ : KidD) :: post → Nd w5 y.F y.p y.t := fun y hy => by
       have hss := hs.ss
       rw [List.pairwise_append, List.pairwise_cons] at hss
       simp only [List.mem_append, List.mem_cons] at hy
       have old : y ∈ pre ++ (⟨p, Fx, tx⟩ : KidD) :: post → Apart y.F Fx → Nd w5 y.F y.p y.t := fun hy ha => (hkk4 y hy).keep hk5 (fun q r h g => g.elim (ha q r h) (fun g => hgF r (g ▸ HK.out.2.2.2.2.1 y hy q r h)))
       rcases hy with hy | rfl | hy
       · exact old (by simp [hy]) (hss.2.2 y hy (⟨p, Fx, tx⟩ : KidD) (by simp))
       · exact hndX
       · exact old (by simp [hy]) (hss.2.1.1 y hy).symm
     have hFX' : ∀ q r, FX q r → Fx q r ∨ w.heap.size ≤ q := fun q r h => (hFX q r h).imp id (fun h => by omega)
     have hsep5 : Sep b Fk Fc (pre ++ (⟨p, FX, .mk uk uc⟩ : KidD) :: post) :=
       set_sep (n0 := w.heap.size) hs hblt HL.out.1 HL.out.2.1 (fun y hy q r h => (HK.out.1 y hy).lt q r h) hFX'
     obtain ⟨g0, g1, g2, g3, g4, g5, g6, g7, g8⟩ := hg5.cells
     obtain ⟨y1, y2, y3, y4⟩ := box2 hb5
     obtain ⟨z1, z2, z3, z4⟩ := box2 hboxX
     have H5 := Lib.hid (And.intro hndX (And.intro hFX' (And.intro hk5 (And.intro hg5 (And.intro hb5 (And.intro hkr5 (And.intro hcr5 (And.intro hkids5 hsep5))))))))
     clear hndX hFX hFX' hk5 hg5 hb5 hkr5 hcr5 hkids5 hsep5 hs hgF hboxX hkrX hcell4 hk4 hb4 hg4 hkr4 hcr4 hkk4 hcell0 x1 x2 x3 x4
     have huk9 : (uk.length : Int) ≤ 100000 := by
       have h1 : uk.length ≤ tx.ks.length := HLESS.out.2.1
       have h2 := (HZ.out.1 _ HMX.out).1
       dsimp only at h2
       omega
     have hkept : KeptF (fun q r => F q r ∨ q = gb) w w5 := HB.out.1.trans (H5.out.2.2.1.mono (fun q r _ h => .inl (h.imp (HK.out.2.2.2.2.1 _ HMX.out q r) id)))
     have hksm : Tr.kidAt ((pre ++ (⟨p, Fx, .mk uk uc⟩ : KidD) :: post).map KidD.t) i = .mk uk uc := by
       rw [Tr.kidAt_get (by have := HI.out.2.2.2; simp; omega)]; simp [← HI.out.2.2.2]
     have F5def : ∀ q r, allOf b Fk Fc (pre ++ (⟨p, FX, .mk uk uc⟩ : KidD) :: post) q r → F q r ∨ w.heap.size ≤ q := by
       rintro q r (h | h | h | ⟨y, hy, h⟩)
       · subst h; exact .inl (HK.out.2.1 r)
       · exact .inl (HK.out.2.2.1 q r h)
       · exact .inl (HK.out.2.2.2.1 q r h)
       · simp only [List.mem_append, List.mem_cons] at hy
         rcases hy with hy | rfl | hy
         · exact .inl (HK.out.2.2.2.2.1 y (by simp [hy]) q r h)
         · exact (H5.out.2.1 q r h).imp (HK.out.2.2.2.2.1 _ HMX.out q r) id
         · exact .inl (HK.out.2.2.2.2.1 y (by simp [hy]) q r h)
     have HKP := Lib.hid (And.intro hkept (And.intro hksm F5def))
     clear hkept hksm F5def
     go_upto_region 7 with (fail)
     by_cases hsmall : (uk.length : Int) < half
     · go_quiet (fail)
       generalize hW6 : w5.drewN _ = w6
       obtain ⟨hndX, hFX', hk5, hg5, hb5, hkr5, hcr5, hkids5, hsep5⟩ := H5.out
       have hk6 : KeptF (fun _ _ => False) w5 w6 := by rw [← hW6]; exact KeptF.drewN _ _ _
       have hsz6 : w6.heap.size = w5.heap.size := by rw [← hW6]; rfl
       obtain ⟨M, hM⟩ : ∃ M, M = Tr.mend (wide / 2) ((pre ++ (⟨p, FX, .mk uk uc⟩ : KidD) :: post).map KidD.t) i := ⟨_, rfl⟩
       have hgb5 : ∀ o, ¬ allOf b Fk Fc (pre ++ (⟨p, FX, .mk uk uc⟩ : KidD) :: post) gb o := fun o h => (HKP.out.2.2 gb o h).elim (fun h => HGF.out o h) (fun h => by omega)
       have hln : (pre ++ (⟨p, FX, .mk uk uc⟩ : KidD) :: post).length = NK := by rw [HI.out.2.2.1]; simp
       have hrep := repair_c wide hwide w6 (allOf b Fk Fc (pre ++ (⟨p, FX, .mk uk uc⟩ : KidD) :: post)) gb gn sh (bo + rb) (jo + rj) b (k.set i top) (pre ++ (⟨p, FX, .mk uk uc⟩ : KidD) :: post) (Fk := Fk) (Fc := Fc) i (hk6.block' hg5 (fun _ h => h))
         (hk6.block' hb5 (fun _ h => h)) (by have := hkr5.keep hk6 (fun _ _ _ h => h); first | exact this | simpa using this) (by have := hcr5.keep hk6 (fun _ _ _ h => h); exact this) (fun y hy => (hkids5 y hy).keep hk6 (fun _ _ _ h => h))
         (fun o => .inl rfl) (fun q o h => .inr (.inl h)) (fun q o h => .inr (.inr (.inl h))) (fun y hy q o h => .inr (.inr (.inr ⟨y, hy, h⟩))) hsep5 hgb5
         (by first | omega | (rw [List.length_set]; omega)) (by first | omega | (rw [List.length_set]; omega)) (by omega) (by omega) (fun z hz => by
           simp only [List.mem_append, List.mem_cons] at hz
           rcases hz with hz | rfl | hz
           · exact HZ.out.1 z (by simp [hz])
           · obtain ⟨a1, a2, a3⟩ := HLESS.out
             obtain ⟨b1, b2, -⟩ := HZ.out.1 _ HMX.out
             exact ⟨Nat.le_trans a2 b1, Nat.le_trans a3 b2, a1⟩
           · exact HZ.out.1 z (by simp [hz])) (by omega) (by omega) M hM
       have HREP := Lib.hid hrep
       have H6 := Lib.hid (And.intro hk6 (And.intro hsz6 hM))
       clear hW6 hndX hFX' hk5 hg5 hb5 hkr5 hcr5 hkids5 hsep5 hk6 hM hgb5 hrep y1 y2 y3 y4 z1 z2 z3 z4 hcell5 g0 g1 g2 g3 g4 g5 g6 g7 g8
       obtain ⟨PB, hPB⟩ : ∃ z, z = bo + RR.b := ⟨_, rfl⟩
       obtain ⟨PJ, hPJ⟩ : ∃ z, z = jo + RR.j := ⟨_, rfl⟩
       obtain ⟨PT, hPT⟩ : ∃ z, z = RR.t := ⟨_, rfl⟩
       go_wp2_with fail
       refine HREP.out.mono ?_
       rintro e w7 ⟨F7, rfl, hnd7, hF7, hk7, hg7⟩
       have H7 := Lib.hid (And.intro hnd7 (And.intro hF7 (And.intro hk7 hg7)))
       clear hnd7 hF7 hk7 hg7
       go_wp2_with fail
       obtain ⟨hnd7, hF7, hk7, hg7⟩ := H7.out
       refine bodyPost_end (v := .tuple #[]) (by simp [results, Try.results121, go_sem]) rfl ?_
       have hrr : RR = ⟨Tr.mended M (k.set i top) ((pre ++ (⟨p, FX, .mk uk uc⟩ : KidD) :: post).map KidD.t) i, rb + (if M < 2 then 1 else 0), rj + (if M < 2 then 0 else 1)⟩ := by
         have e : (pre ++ (⟨p, Fx, .mk uk uc⟩ : KidD) :: post).map KidD.t = (pre ++ (⟨p, FX, .mk uk uc⟩ : KidD) :: post).map KidD.t := by simp
         have h2 := HKP.out.2.1
         have h1 := HRR2.out
         have hm := H6.out.2.2
         rw [← HH.out.1] at hm
         rw [e] at h1 h2
         rw [h1, Tr.repair_eq (by rw [h2]; show (uk.length : Int) < half; omega), ← hm]
       rw [hrr]
       have hs6 := H6.out.2.1
       have hs5 := hsz5
       refine ⟨F7, rfl, hnd7, fun q r h => ?_, ?_, ?_⟩
       · rcases hF7 q r h with h | h
         · exact HKP.out.2.2 q r h
         · right; omega
       · have a1 := HKP.out.1.trans (H6.out.1.mono (fun _ _ _ h => h.elim))
         exact a1.trans (hk7.mono (fun q r _ h => h.elim (fun h => (HKP.out.2.2 q r h).imp .inl id) (fun h => .inl (.inr h))))
       · rw [Nat.add_assoc, Nat.add_assoc] at hg7
         exact hg7
     · go_quiet (fail)
       go_wp2_with fail
       obtain ⟨hndX, hFX', hk5, hg5, hb5, hkr5, hcr5, hkids5, hsep5⟩ := H5.out
       refine bodyPost_end (v := .tuple #[]) (by simp [results, Try.results121, go_sem]) rfl ?_
       have hrr : RR = ⟨.mk (k.set i top) ((pre ++ (⟨p, FX, .mk uk uc⟩ : KidD) :: post).map KidD.t), rb, rj⟩ := by
         have e : (pre ++ (⟨p, Fx, .mk uk uc⟩ : KidD) :: post).map KidD.t = (pre ++ (⟨p, FX, .mk uk uc⟩ : KidD) :: post).map KidD.t := by simp
         have h2 := HKP.out.2.1
         have h1 := HRR2.out
         rw [e] at h1 h2
         rw [h1, Tr.repair_none (by rw [h2]; show ¬ ((uk.length : Int) < half); omega)]
       rw [hrr]
       have hkd := KeptF.drewN (fun _ _ => False) w5
       have hnd := Nd.intro hb5 (by first | exact hkr5 | simpa using hkr5) hcr5 hkids5 hsep5
       refine ⟨_, rfl, hnd.keep (hkd _) (fun _ _ _ h => h), HKP.out.2.2, HKP.out.1.trans ((hkd _).mono (fun _ _ _ h => h.elim)), (hkd _).block' hg5 (fun _ h => h)⟩
   · have hod : decide (i < k.length ∧ k.getD i 0 = key) = false := by rw [HI.out.1]; exact decide_eq_false ho
     rw [hod]
     have HO := Lib.hid ho
     clear hod ho
     have hlack : Tr.Lacks key tx := by have h := HW.out.2.1; rw [if_neg HO.out] at h; exact h
     have HB := Lib.hid (And.intro (HKC.out.1.mono (G := fun q r => F q r ∨ q = gb) (fun _ _ _ h => h.elim)) HKC.out.2)
     have HLK := Lib.hid hlack
     clear hlack
     have hcall := HIH.out key tx HLK.out HW.out.2.2 w2 Fx p gb gn sh bo jo (HB.out.2.2.2.2.2.1 _ HMX.out) HB.out.2.2.1 (fun o h => HGF.out o (HK.out.2.2.2.2.1 _ HMX.out _ _ h)) (by omega) (by omega)
     have hless : Tr.Less (Tr.del half n key tx).t tx.ks tx.cs := by
       have hl := HLK.out
       cases n with
       | zero => obtain ⟨a, d⟩ := tx; exact ⟨hl.1.fits.2.1, Nat.le_refl _, Nat.le_refl _⟩
       | succ n => obtain ⟨a, d⟩ := tx; exact Tr.del_less n _ _ _ hl
     have hcount := Tr.del_count (half := half) n key tx
     obtain ⟨⟨⟨uk, uc⟩, rb, rj⟩, hr⟩ : ∃ r, r = Tr.del half n key tx := ⟨_, rfl⟩
     rw [← hr] at hcall hless hcount
     dsimp only at hcall hless hcount
     have hRR2 : RR = Tr.repair half k ((pre ++ (⟨p, Fx, .mk uk uc⟩ : KidD) :: post).map KidD.t) i rb rj := by
       have h1 := HRR.out
       have h2 : (((pre ++ (⟨p, Fx, tx⟩ : KidD) :: post).map KidD.t)).length ≠ 0 := by simp
       have h3 := HI.out.2.1
       have h4 : Tr.setKid ((pre ++ (⟨p, Fx, tx⟩ : KidD) :: post).map KidD.t) i (.mk uk uc) = (pre ++ (⟨p, Fx, .mk uk uc⟩ : KidD) :: post).map KidD.t := by
         rw [List.map_append, List.map_cons, show i = (pre.map KidD.t).length by rw [List.length_map, HI.out.2.2.2], Tr.setKid_mid]; simp
       rw [Tr.del_miss h2 HO.out, ← HI.out.1, h3, ← hr] at h1
       dsimp only at h1
       rw [h4] at h1
       exact h1
     have HCALL := Lib.hid hcall
     have HLESS := Lib.hid hless
     have HRR2 := Lib.hid hRR2
     clear hcall hless hRR2 hr
     have hcell0 := HB.out.2.2.2.2.2.2
     go_wp2_with fail
     refine HCALL.out.mono ?_
     rintro e w5 ⟨FX, rfl, hndX, hFX, hk5, hg5⟩
     obtain ⟨hk4, hb4, hg4, hkr4, hcr4, hkk4, hcell4⟩ := HB.out
     obtain ⟨kidsX, FkX, FcX, kvX, cvX, _, hboxX, hkrX, _⟩ := hndX.parts
     obtain ⟨kaX, kcX, rfl⟩ := hkrX.shown
     rw [List.length_map] at hboxX
     have hsz4 := hk4.size
     have hsz5 := hk5.size
     have hs := HK.out.2.2.2.2.2
     have hgF := HGF.out
     have hb5 := hk5.block' hb4 (fun q h => h.elim (fun h => hs.bs _ HMX.out b q rfl h) (fun h => hgb h.symm))
     have hkr5 := hkr4.keep hk5 (fun q r h g => g.elim (fun g => hs.ks _ HMX.out q r h g) (fun g => hgF r (g ▸ HK.out.2.2.1 q r h)))
     have hcr5 := hcr4.keep hk5 (fun q r h g => g.elim (fun g => hs.cs _ HMX.out q r h g) (fun g => hgF r (g ▸ HK.out.2.2.2.1 q r h)))
     rw [show (pre ++ (⟨p, Fx, tx⟩ : KidD) :: post).map KidD.ptr = (pre ++ (⟨p, FX, .mk uk uc⟩ : KidD) :: post).map KidD.ptr by simp [KidD.ptr]] at hcr5
     have hcell5 : w5.cell? ⟨cb, co + i, none⟩ = some (.pointer (some ⟨p, 0, none⟩)) := by
       have h5 := HC.out.1 i (by omega)
       rw [hk5.cell cb (co + i) (World.block_lt_of_cell? _ _ hcell4) (fun g => g.elim (fun g => hs.cs _ HMX.out _ _ h5.1 g) (fun g => hgF _ (g ▸ HK.out.2.2.2.1 _ _ h5.1)))]
       exact hcell4
     have hkids5 : ∀ y, y ∈ pre ++ (⟨p, FX, .mk uk uc⟩ : KidD) :: post → Nd w5 y.F y.p y.t := fun y hy => by
       have hss := hs.ss
       rw [List.pairwise_append, List.pairwise_cons] at hss
       simp only [List.mem_append, List.mem_cons] at hy
       have old : y ∈ pre ++ (⟨p, Fx, tx⟩ : KidD) :: post → Apart y.F Fx → Nd w5 y.F y.p y.t := fun hy ha => (hkk4 y hy).keep hk5 (fun q r h g => g.elim (ha q r h) (fun g => hgF r (g ▸ HK.out.2.2.2.2.1 y hy q r h)))
       rcases hy with hy | rfl | hy
       · exact old (by simp [hy]) (hss.2.2 y hy (⟨p, Fx, tx⟩ : KidD) (by simp))
       · exact hndX
       · exact old (by simp [hy]) (hss.2.1.1 y hy).symm
     have hFX' : ∀ q r, FX q r → Fx q r ∨ w.heap.size ≤ q := fun q r h => (hFX q r h).imp id (fun h => by omega)
     have hsep5 : Sep b Fk Fc (pre ++ (⟨p, FX, .mk uk uc⟩ : KidD) :: post) :=
       set_sep (n0 := w.heap.size) hs hblt HL.out.1 HL.out.2.1 (fun y hy q r h => (HK.out.1 y hy).lt q r h) hFX'
     obtain ⟨g0, g1, g2, g3, g4, g5, g6, g7, g8⟩ := hg5.cells
     obtain ⟨y1, y2, y3, y4⟩ := box2 hb5
     obtain ⟨z1, z2, z3, z4⟩ := box2 hboxX
     have H5 := Lib.hid (And.intro hndX (And.intro hFX' (And.intro hk5 (And.intro hg5 (And.intro hb5 (And.intro hkr5 (And.intro hcr5 (And.intro hkids5 hsep5))))))))
     clear hndX hFX hFX' hk5 hg5 hb5 hkr5 hcr5 hkids5 hsep5 hs hgF hboxX hkrX hcell4 hk4 hb4 hg4 hkr4 hcr4 hkk4 hcell0 x1 x2 x3 x4
     have huk9 : (uk.length : Int) ≤ 100000 := by
       have h1 : uk.length ≤ tx.ks.length := HLESS.out.2.1
       have h2 := (HZ.out.1 _ HMX.out).1
       dsimp only at h2
       omega
     have hkept : KeptF (fun q r => F q r ∨ q = gb) w w5 := HB.out.1.trans (H5.out.2.2.1.mono (fun q r _ h => .inl (h.imp (HK.out.2.2.2.2.1 _ HMX.out q r) id)))
     have hksm : Tr.kidAt ((pre ++ (⟨p, Fx, .mk uk uc⟩ : KidD) :: post).map KidD.t) i = .mk uk uc := by
       rw [Tr.kidAt_get (by have := HI.out.2.2.2; simp; omega)]; simp [← HI.out.2.2.2]
     have F5def : ∀ q r, allOf b Fk Fc (pre ++ (⟨p, FX, .mk uk uc⟩ : KidD) :: post) q r → F q r ∨ w.heap.size ≤ q := by
       rintro q r (h | h | h | ⟨y, hy, h⟩)
       · subst h; exact .inl (HK.out.2.1 r)
       · exact .inl (HK.out.2.2.1 q r h)
       · exact .inl (HK.out.2.2.2.1 q r h)
       · simp only [List.mem_append, List.mem_cons] at hy
         rcases hy with hy | rfl | hy
         · exact .inl (HK.out.2.2.2.2.1 y (by simp [hy]) q r h)
         · exact (H5.out.2.1 q r h).imp (HK.out.2.2.2.2.1 _ HMX.out q r) id
         · exact .inl (HK.out.2.2.2.2.1 y (by simp [hy]) q r h)
     have HKP := Lib.hid (And.intro hkept (And.intro hksm F5def))
     clear hkept hksm F5def
     go_upto_region 7 with (fail)
     by_cases hsmall : (uk.length : Int) < half
     · go_quiet (fail)
       generalize hW6 : w5.drewN _ = w6
       obtain ⟨hndX, hFX', hk5, hg5, hb5, hkr5, hcr5, hkids5, hsep5⟩ := H5.out
       have hk6 : KeptF (fun _ _ => False) w5 w6 := by rw [← hW6]; exact KeptF.drewN _ _ _
       have hsz6 : w6.heap.size = w5.heap.size := by rw [← hW6]; rfl
       obtain ⟨M, hM⟩ : ∃ M, M = Tr.mend (wide / 2) ((pre ++ (⟨p, FX, .mk uk uc⟩ : KidD) :: post).map KidD.t) i := ⟨_, rfl⟩
       have hgb5 : ∀ o, ¬ allOf b Fk Fc (pre ++ (⟨p, FX, .mk uk uc⟩ : KidD) :: post) gb o := fun o h => (HKP.out.2.2 gb o h).elim (fun h => HGF.out o h) (fun h => by omega)
       have hln : (pre ++ (⟨p, FX, .mk uk uc⟩ : KidD) :: post).length = NK := by rw [HI.out.2.2.1]; simp
       have hrep := repair_c wide hwide w6 (allOf b Fk Fc (pre ++ (⟨p, FX, .mk uk uc⟩ : KidD) :: post)) gb gn sh (bo + rb) (jo + rj) b k (pre ++ (⟨p, FX, .mk uk uc⟩ : KidD) :: post) (Fk := Fk) (Fc := Fc) i (hk6.block' hg5 (fun _ h => h))
         (hk6.block' hb5 (fun _ h => h)) (by have := hkr5.keep hk6 (fun _ _ _ h => h); first | exact this | simpa using this) (by have := hcr5.keep hk6 (fun _ _ _ h => h); exact this) (fun y hy => (hkids5 y hy).keep hk6 (fun _ _ _ h => h))
         (fun o => .inl rfl) (fun q o h => .inr (.inl h)) (fun q o h => .inr (.inr (.inl h))) (fun y hy q o h => .inr (.inr (.inr ⟨y, hy, h⟩))) hsep5 hgb5
         (by first | omega | (rw [List.length_set]; omega)) (by first | omega | (rw [List.length_set]; omega)) (by omega) (by omega) (fun z hz => by
           simp only [List.mem_append, List.mem_cons] at hz
           rcases hz with hz | rfl | hz
           · exact HZ.out.1 z (by simp [hz])
           · obtain ⟨a1, a2, a3⟩ := HLESS.out
             obtain ⟨b1, b2, -⟩ := HZ.out.1 _ HMX.out
             exact ⟨Nat.le_trans a2 b1, Nat.le_trans a3 b2, a1⟩
           · exact HZ.out.1 z (by simp [hz])) (by omega) (by omega) M hM
       have HREP := Lib.hid hrep
       have H6 := Lib.hid (And.intro hk6 (And.intro hsz6 hM))
       clear hW6 hndX hFX' hk5 hg5 hb5 hkr5 hcr5 hkids5 hsep5 hk6 hM hgb5 hrep y1 y2 y3 y4 z1 z2 z3 z4 hcell5 g0 g1 g2 g3 g4 g5 g6 g7 g8
       obtain ⟨PB, hPB⟩ : ∃ z, z = bo + RR.b := ⟨_, rfl⟩
       obtain ⟨PJ, hPJ⟩ : ∃ z, z = jo + RR.j := ⟨_, rfl⟩
       obtain ⟨PT, hPT⟩ : ∃ z, z = RR.t := ⟨_, rfl⟩
       go_wp2_with fail
       refine HREP.out.mono ?_
       rintro e w7 ⟨F7, rfl, hnd7, hF7, hk7, hg7⟩
       have H7 := Lib.hid (And.intro hnd7 (And.intro hF7 (And.intro hk7 hg7)))
       clear hnd7 hF7 hk7 hg7
       go_wp2_with fail
       obtain ⟨hnd7, hF7, hk7, hg7⟩ := H7.out
       refine bodyPost_end (v := .tuple #[]) (by simp [results, Try.results121, go_sem]) rfl ?_
       have hrr : RR = ⟨Tr.mended M k ((pre ++ (⟨p, FX, .mk uk uc⟩ : KidD) :: post).map KidD.t) i, rb + (if M < 2 then 1 else 0), rj + (if M < 2 then 0 else 1)⟩ := by
         have e : (pre ++ (⟨p, Fx, .mk uk uc⟩ : KidD) :: post).map KidD.t = (pre ++ (⟨p, FX, .mk uk uc⟩ : KidD) :: post).map KidD.t := by simp
         have h2 := HKP.out.2.1
         have h1 := HRR2.out
         have hm := H6.out.2.2
         rw [← HH.out.1] at hm
         rw [e] at h1 h2
         rw [h1, Tr.repair_eq (by rw [h2]; show (uk.length : Int) < half; omega), ← hm]
       rw [hrr]
       have hs6 := H6.out.2.1
       have hs5 := hsz5
       refine ⟨F7, rfl, hnd7, fun q r h => ?_, ?_, ?_⟩
       · rcases hF7 q r h with h | h
         · exact HKP.out.2.2 q r h
         · right; omega
       · have a1 := HKP.out.1.trans (H6.out.1.mono (fun _ _ _ h => h.elim))
         exact a1.trans (hk7.mono (fun q r _ h => h.elim (fun h => (HKP.out.2.2 q r h).imp .inl id) (fun h => .inl (.inr h))))
       · rw [Nat.add_assoc, Nat.add_assoc] at hg7
         exact hg7
     · go_quiet (fail)
       go_wp2_with fail
       obtain ⟨hndX, hFX', hk5, hg5, hb5, hkr5, hcr5, hkids5, hsep5⟩ := H5.out
       refine bodyPost_end (v := .tuple #[]) (by simp [results, Try.results121, go_sem]) rfl ?_
       have hrr : RR = ⟨.mk k ((pre ++ (⟨p, FX, .mk uk uc⟩ : KidD) :: post).map KidD.t), rb, rj⟩ := by
         have e : (pre ++ (⟨p, Fx, .mk uk uc⟩ : KidD) :: post).map KidD.t = (pre ++ (⟨p, FX, .mk uk uc⟩ : KidD) :: post).map KidD.t := by simp
         have h2 := HKP.out.2.1
         have h1 := HRR2.out
         rw [e] at h1 h2
         rw [h1, Tr.repair_none (by rw [h2]; show ¬ ((uk.length : Int) < half); omega)]
       rw [hrr]
       have hkd := KeptF.drewN (fun _ _ => False) w5
       have hnd := Nd.intro hb5 (by first | exact hkr5 | simpa using hkr5) hcr5 hkids5 hsep5
       refine ⟨_, rfl, hnd.keep (hkd _) (fun _ _ _ h => h), HKP.out.2.2, HKP.out.1.trans ((hkd _).mono (fun _ _ _ h => h.elim)), (hkd _).block' hg5 (fun _ h => h)⟩
end Go.Proofs.Ytananonjomfpkaa

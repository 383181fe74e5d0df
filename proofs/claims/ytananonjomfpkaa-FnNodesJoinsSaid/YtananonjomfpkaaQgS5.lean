/- Two kids side by side of a model's tree: their rows, laid open; what is made of them, shut again. -/
import Derived.Test.YtananonjomfpkaaQgS4
namespace Go.Proofs.Ytananonjomfpkaa
open Go.RowKit
def Wrought (w : World) (F : Cells) (t : Tr) (e : Ending) (w' : World) : Prop :=
 ∃ (kv cv : Value) (F' : Cells), e = .returned (.agg #[kv, cv]) ∧ Td w' F' kv cv t ∧ (∀ x o, F' x o → F x o ∨ w.heap.size ≤ x) ∧ KeptF F w w'
theorem Td.lt {w : World} {F : Cells} {kv cv : Value} {t : Tr} (h : Td w F kv cv t) : ∀ x o, F x o → x < w.heap.size := by
 cases h with
 | mk ks kids F Fk Fc kv cv hkr hc hkids sk sc ss ap lt => exact lt
theorem Td.slices {w : World} {F : Cells} {kv cv : Value} {t : Tr} (h : Td w F kv cv t) : ∃ a n c a' n' c', kv = .slice a n c ∧ cv = .slice a' n' c' := by
 cases h with
 | mk ks kids F Fk Fc kv cv hkr hc hkids sk sc ss ap lt =>
   obtain ⟨a, c, e⟩ := hkr.shown
   obtain ⟨a', c', e'⟩ := hc.shown
   exact ⟨_, _, _, _, _, _, e, e'⟩
theorem Td.build {w : World} {G1 G2 : Cells} {kv cv : Value} {ks : List Int} {kids : List KidT} (hk : RowF w G1 kv (ks.map (Value.int .i64))) (hc : RowT w G2 cv (kids.map KidT.pair)) (hkids : ∀ z, z ∈ kids → Td w z.F z.kv z.cv z.t)
   (ap : (G1 :: G2 :: kids.map KidT.F).Pairwise Apart) : Td w (fun x o => G1 x o ∨ G2 x o ∨ ∃ z, z ∈ kids ∧ z.F x o) kv cv (.mk ks (kids.map KidT.t)) :=
 .mk ks kids _ G1 G2 kv cv hk hc hkids (fun _ _ h => .inl h) (fun _ _ h => .inr (.inl h)) (fun y hy _ _ h => .inr (.inr ⟨y, hy, h⟩)) ap (fun x o h => by
   rcases h with h | h | ⟨z, hz, h⟩
   · exact hk.1 x o h
   · exact hc.1 x o h
   · exact (hkids z hz).lt x o h)
def sixD (Fk Fc F2 F3 F4 F5 : Cells) (kv cv xk xc yk yc : Value) (k kx ky : List Int) (K K3 K5 : List (Value × Value)) : List RowD :=
 [intsD Fk kv k, treesD Fc cv K, intsD F2 xk kx, treesD F3 xc K3, intsD F4 yk ky, treesD F5 yc K5]
structure OpenTwo (w : World) (F CH : Cells) (kv cv : Value) (k : List Int) (pre post : List KidT) (xk xc : Value) (kx : List Int) (kidsx : List KidT) (yk yc : Value) (ky : List Int) (kidsy : List KidT) : Prop where
 rows : ∃ Fk Fc F2 F3 F4 F5, HeldR w CH w (sixD Fk Fc F2 F3 F4 F5 kv cv xk xc yk yc k kx ky (pre.map KidT.pair ++ (xk, xc) :: (yk, yc) :: post.map KidT.pair) (kidsx.map KidT.pair) (kidsy.map KidT.pair))
 kids : ∀ z, z ∈ pre ++ (kidsx ++ kidsy) ++ post → Td w z.F z.kv z.cv z.t ∧ Apart z.F CH ∧ ∀ q o, z.F q o → F q o
 ap : ((pre ++ (kidsx ++ kidsy) ++ post).map KidT.F).Pairwise Apart
 sub : ∀ q o, CH q o → F q o
theorem openTwo_of {w : World} {F Fk Fc : Cells} {kv cv : Value} {k : List Int} {pre post : List KidT} {x y : KidT} {kx ky : List Int} {cx cy : List Tr} (htx : x.t = .mk kx cx) (hty : y.t = .mk ky cy)
   (hk : RowF w Fk kv (k.map (Value.int .i64))) (hc : RowT w Fc cv ((pre ++ x :: y :: post).map KidT.pair)) (hkids : ∀ z, z ∈ pre ++ x :: y :: post → Td w z.F z.kv z.cv z.t)
   (sk : ∀ q o, Fk q o → F q o) (sc : ∀ q o, Fc q o → F q o) (ss : ∀ z, z ∈ pre ++ x :: y :: post → ∀ q o, z.F q o → F q o) (ap : (Fk :: Fc :: (pre ++ x :: y :: post).map KidT.F).Pairwise Apart) :
   ∃ (CH : Cells) (kidsx kidsy : List KidT), cx = kidsx.map KidT.t ∧ cy = kidsy.map KidT.t ∧ OpenTwo w F CH kv cv k pre post x.kv x.cv kx kidsx y.kv y.cv ky kidsy := by
 have mx : x ∈ pre ++ x :: y :: post := by simp
 have my : y ∈ pre ++ x :: y :: post := by simp
 have hx := hkids x mx
 have hy := hkids y my
 rw [htx] at hx
 rw [hty] at hy
 obtain ⟨kidsx, F2, F3, hcx, hk2, hc3, hkx, s2, s3, ssx, apx, ltx⟩ := hx.parts
 obtain ⟨kidsy, F4, F5, hcy, hk4, hc5, hky, s4, s5, ssy, apy, lty⟩ := hy.parts
 have hap := List.pairwise_cons.1 ap
 have hap2 := List.pairwise_cons.1 hap.2
 have hkid := hap2.2
 rw [List.map_append, List.map_cons, List.map_cons, List.pairwise_append, List.pairwise_cons, List.pairwise_cons] at hkid
 obtain ⟨p1, ⟨p2, p3, p4⟩, p5⟩ := hkid
 have hxy : Apart x.F y.F := p2 y.F (by simp)
 have hmem : ∀ z, z ∈ pre ++ x :: y :: post → z.F ∈ (pre ++ x :: y :: post).map KidT.F := fun z hz => List.mem_map_of_mem hz
 have kA : ∀ z, z ∈ pre ++ x :: y :: post → Apart Fk z.F := fun z hz => hap.1 z.F (List.mem_cons_of_mem _ (hmem z hz))
 have cA : ∀ z, z ∈ pre ++ x :: y :: post → Apart Fc z.F := fun z hz => hap2.1 z.F (hmem z hz)
 have kc : Apart Fk Fc := hap.1 Fc (by simp)
 have px := List.pairwise_cons.1 apx
 have px2 := List.pairwise_cons.1 px.2
 have py := List.pairwise_cons.1 apy
 have py2 := List.pairwise_cons.1 py.2
 have x23 : Apart F2 F3 := px.1 F3 (by simp)
 have y45 : Apart F4 F5 := py.1 F5 (by simp)
 obtain ⟨CH, hCH⟩ : ∃ CH : Cells, CH = fun q o => Fk q o ∨ Fc q o ∨ F2 q o ∨ F3 q o ∨ F4 q o ∨ F5 q o := ⟨_, rfl⟩
 have up : ∀ {G : Cells}, Apart Fk G → Apart Fc G → Apart F2 G → Apart F3 G → Apart F4 G → Apart F5 G → Apart G CH := fun a b c d e f q o h g => by
   rw [hCH] at g
   rcases g with g | g | g | g | g | g
   · exact a q o g h
   · exact b q o g h
   · exact c q o g h
   · exact d q o g h
   · exact e q o g h
   · exact f q o g h
 have outer : ∀ z, z ∈ pre ∨ z ∈ post → Apart x.F z.F ∧ Apart y.F z.F := fun z hz => by
   rcases hz with hz | hz
   · exact ⟨(p5 z.F (List.mem_map_of_mem hz) x.F (by simp)).symm, (p5 z.F (List.mem_map_of_mem hz) y.F (by simp)).symm⟩
   · exact ⟨p2 z.F (List.mem_cons_of_mem _ (List.mem_map_of_mem hz)), p3 z.F (List.mem_map_of_mem hz)⟩
 refine ⟨CH, kidsx, kidsy, hcx, hcy, ⟨Fk, Fc, F2, F3, F4, F5, HeldR.start (fun r hr => ?_) (fun r hr q o g => ?_) ?_⟩, fun z hz => ?_, ?_, fun q o g => ?_⟩
 · simp only [sixD, List.mem_cons, List.not_mem_nil, or_false] at hr
   have e : pre.map KidT.pair ++ (x.kv, x.cv) :: (y.kv, y.cv) :: post.map KidT.pair = (pre ++ x :: y :: post).map KidT.pair := by simp [KidT.pair]
   rcases hr with rfl | rfl | rfl | rfl | rfl | rfl
   · have := hk.n; rw [List.length_map] at this; exact this
   · rw [e]; exact hc.n
   · have := hk2.n; rw [List.length_map] at this; exact this
   · exact hc3.n
   · have := hk4.n; rw [List.length_map] at this; exact this
   · exact hc5.n
 · simp only [sixD, List.mem_cons, List.not_mem_nil, or_false] at hr
   rw [hCH]
   rcases hr with rfl | rfl | rfl | rfl | rfl | rfl
   · exact .inl g
   · exact .inr (.inl g)
   · exact .inr (.inr (.inl g))
   · exact .inr (.inr (.inr (.inl g)))
   · exact .inr (.inr (.inr (.inr (.inl g))))
   · exact .inr (.inr (.inr (.inr (.inr g))))
 · have sx : ∀ {G : Cells}, Apart G x.F → Apart G F2 ∧ Apart G F3 := fun h => ⟨h.mono (fun _ _ h => h) s2, h.mono (fun _ _ h => h) s3⟩
   have sy : ∀ {G : Cells}, Apart G y.F → Apart G F4 ∧ Apart G F5 := fun h => ⟨h.mono (fun _ _ h => h) s4, h.mono (fun _ _ h => h) s5⟩
   have k2 := sx (kA x mx)
   have k4 := sy (kA y my)
   have c2 := sx (cA x mx)
   have c4 := sy (cA y my)
   have x2 := sy (hxy.mono s2 (fun _ _ h => h))
   have x3 := sy (hxy.mono s3 (fun _ _ h => h))
   show [Fk, Fc, F2, F3, F4, F5].Pairwise Apart
   simp only [List.pairwise_cons, List.mem_cons, List.not_mem_nil, or_false, forall_eq_or_imp, forall_eq, false_imp_iff, implies_true, and_true, List.Pairwise.nil]
   exact ⟨⟨kc, k2.1, k2.2, k4.1, k4.2⟩, ⟨c2.1, c2.2, c4.1, c4.2⟩, ⟨x23, x2.1, x2.2⟩, ⟨x3.1, x3.2⟩, y45⟩
 · simp only [List.mem_append] at hz
   rcases hz with (hz | hz | hz) | hz
   · have hm : z ∈ pre ++ x :: y :: post := by simp [hz]
     have ho := outer z (.inl hz)
     exact ⟨hkids z hm, up (kA z hm) (cA z hm) (ho.1.mono s2 (fun _ _ h => h)) (ho.1.mono s3 (fun _ _ h => h)) (ho.2.mono s4 (fun _ _ h => h)) (ho.2.mono s5 (fun _ _ h => h)), ss z hm⟩
   · have a1 : ∀ {G : Cells}, Apart G x.F → Apart G z.F := fun h => h.mono (fun _ _ h => h) (ssx z hz)
     exact ⟨hkx z hz, up (a1 (kA x mx)) (a1 (cA x mx)) (px.1 z.F (List.mem_cons_of_mem _ (List.mem_map_of_mem hz))) (px2.1 z.F (List.mem_map_of_mem hz)) (a1 (hxy.symm.mono s4 (fun _ _ h => h))) (a1 (hxy.symm.mono s5 (fun _ _ h => h))), fun q o g => ss x mx q o (ssx z hz q o g)⟩
   · have a1 : ∀ {G : Cells}, Apart G y.F → Apart G z.F := fun h => h.mono (fun _ _ h => h) (ssy z hz)
     exact ⟨hky z hz, up (a1 (kA y my)) (a1 (cA y my)) (a1 (hxy.mono s2 (fun _ _ h => h))) (a1 (hxy.mono s3 (fun _ _ h => h))) (py.1 z.F (List.mem_cons_of_mem _ (List.mem_map_of_mem hz))) (py2.1 z.F (List.mem_map_of_mem hz)), fun q o g => ss y my q o (ssy z hz q o g)⟩
   · have hm : z ∈ pre ++ x :: y :: post := by simp [hz]
     have ho := outer z (.inr hz)
     exact ⟨hkids z hm, up (kA z hm) (cA z hm) (ho.1.mono s2 (fun _ _ h => h)) (ho.1.mono s3 (fun _ _ h => h)) (ho.2.mono s4 (fun _ _ h => h)) (ho.2.mono s5 (fun _ _ h => h)), ss z hm⟩
 · rw [List.map_append, List.map_append, List.map_append, List.pairwise_append, List.pairwise_append, List.pairwise_append]
   have inX : ∀ a, a ∈ kidsx.map KidT.F → ∀ q o, a q o → x.F q o := fun a ha => by obtain ⟨z, hz, rfl⟩ := List.mem_map.1 ha; exact ssx z hz
   have inY : ∀ a, a ∈ kidsy.map KidT.F → ∀ q o, a q o → y.F q o := fun a ha => by obtain ⟨z, hz, rfl⟩ := List.mem_map.1 ha; exact ssy z hz
   refine ⟨⟨p1, ⟨px2.2, py2.2, fun a ha b hb => hxy.mono (inX a ha) (inY b hb)⟩, fun a ha b hb => ?_⟩, p4, fun a ha b hb => ?_⟩
   · obtain ⟨z, hz, rfl⟩ := List.mem_map.1 ha
     have ho := outer z (.inl hz)
     rcases List.mem_append.1 hb with hb | hb
     · exact ho.1.symm.mono (fun _ _ h => h) (inX b hb)
     · exact ho.2.symm.mono (fun _ _ h => h) (inY b hb)
   · obtain ⟨z, hz, rfl⟩ := List.mem_map.1 hb
     rcases List.mem_append.1 ha with ha | ha
     · exact p5 a ha z.F (List.mem_cons_of_mem _ (List.mem_cons_of_mem _ hb))
     · have ho := outer z (.inr hz)
       rcases List.mem_append.1 ha with ha | ha
       · exact ho.1.mono (inX a ha) (fun _ _ h => h)
       · exact ho.2.mono (inY a ha) (fun _ _ h => h)
 · rw [hCH] at g
   rcases g with g | g | g | g | g | g
   · exact sk q o g
   · exact sc q o g
   · exact ss x mx q o (s2 q o g)
   · exact ss x mx q o (s3 q o g)
   · exact ss y my q o (s4 q o g)
   · exact ss y my q o (s5 q o g)
theorem twoShut {w W : World} {F CH : Cells} {R : List RowD} {kv cv v2 v3 v4 v5 : Value} {G0 G1 G2 G3 G4 G5 : Cells} {k kx ky : List Int} {pre post kidsx kidsy : List KidT} (HR : HeldR w CH W R)
   (g0 : R[0]? = some (intsD G0 kv k)) (g1 : R[1]? = some (treesD G1 cv (pre.map KidT.pair ++ (v2, v3) :: (v4, v5) :: post.map KidT.pair)))
   (g2 : R[2]? = some (intsD G2 v2 kx)) (g3 : R[3]? = some (treesD G3 v3 (kidsx.map KidT.pair))) (g4 : R[4]? = some (intsD G4 v4 ky)) (g5 : R[5]? = some (treesD G5 v5 (kidsy.map KidT.pair)))
   (hall : ∀ z, z ∈ pre ++ (kidsx ++ kidsy) ++ post → Td w z.F z.kv z.cv z.t ∧ Apart z.F CH ∧ ∀ q o, z.F q o → F q o) (ap : ((pre ++ (kidsx ++ kidsy) ++ post).map KidT.F).Pairwise Apart) (hCH : ∀ q o, CH q o → F q o) :
   ∃ F', Td W F' kv cv (.mk k (pre.map KidT.t ++ .mk kx (kidsx.map KidT.t) :: .mk ky (kidsy.map KidT.t) :: post.map KidT.t)) ∧ (∀ q o, F' q o → F q o ∨ w.heap.size ≤ q) ∧ KeptF F w W := by
 have hKF : KeptF F w W := HR.kept.mono (fun q o _ e => hCH q o e)
 have hTd : ∀ z, z ∈ pre ++ (kidsx ++ kidsy) ++ post → Td W z.F z.kv z.cv z.t := fun z hz => (hall z hz).1.keep HR.kept (hall z hz).2.1
 have hout : ∀ i (r : RowD), R[i]? = some r → ∀ z, z ∈ pre ++ (kidsx ++ kidsy) ++ post → Apart r.F z.F := fun i r hr z hz q o a b => by
   rcases HR.sub i r hr q o a with h | h
   · exact (hall z hz).2.1 q o b h
   · have := (hall z hz).1.lt q o b; omega
 have inx : ∀ z, z ∈ kidsx → z ∈ pre ++ (kidsx ++ kidsy) ++ post := fun z hz => by simp [hz]
 have iny : ∀ z, z ∈ kidsy → z ∈ pre ++ (kidsx ++ kidsy) ++ post := fun z hz => by simp [hz]
 have inp : ∀ z, z ∈ pre → z ∈ pre ++ (kidsx ++ kidsy) ++ post := fun z hz => by simp [hz]
 have inq : ∀ z, z ∈ post → z ∈ pre ++ (kidsx ++ kidsy) ++ post := fun z hz => by simp [hz]
 rw [List.map_append, List.map_append, List.map_append, List.pairwise_append, List.pairwise_append, List.pairwise_append] at ap
 obtain ⟨⟨a1, ⟨a2, a3, a4⟩, a5⟩, a6, a7⟩ := ap
 have memF : ∀ {z : KidT} {l : List KidT}, z ∈ l → z.F ∈ l.map KidT.F := fun h => List.mem_map_of_mem h
 have tX := Td.build (ks := kx) (kids := kidsx) (HR.ints 2 g2) (HR.trees 3 g3) (fun z hz => hTd z (inx z hz)) (by
   refine List.pairwise_cons.2 ⟨fun G hG => ?_, List.pairwise_cons.2 ⟨fun G hG => ?_, a2⟩⟩
   · rcases List.mem_cons.1 hG with rfl | hG
     · exact HR.ap 2 3 _ _ (by omega) g2 g3
     · obtain ⟨z, hz, rfl⟩ := List.mem_map.1 hG
       exact hout 2 _ g2 z (inx z hz)
   · obtain ⟨z, hz, rfl⟩ := List.mem_map.1 hG
     exact hout 3 _ g3 z (inx z hz))
 have tY := Td.build (ks := ky) (kids := kidsy) (HR.ints 4 g4) (HR.trees 5 g5) (fun z hz => hTd z (iny z hz)) (by
   refine List.pairwise_cons.2 ⟨fun G hG => ?_, List.pairwise_cons.2 ⟨fun G hG => ?_, a3⟩⟩
   · rcases List.mem_cons.1 hG with rfl | hG
     · exact HR.ap 4 5 _ _ (by omega) g4 g5
     · obtain ⟨z, hz, rfl⟩ := List.mem_map.1 hG
       exact hout 4 _ g4 z (iny z hz)
   · obtain ⟨z, hz, rfl⟩ := List.mem_map.1 hG
     exact hout 5 _ g5 z (iny z hz))
 obtain ⟨FX, hFX⟩ : ∃ FX : Cells, FX = fun x o => G2 x o ∨ G3 x o ∨ ∃ z, z ∈ kidsx ∧ z.F x o := ⟨_, rfl⟩
 obtain ⟨FY, hFY⟩ : ∃ FY : Cells, FY = fun x o => G4 x o ∨ G5 x o ∨ ∃ z, z ∈ kidsy ∧ z.F x o := ⟨_, rfl⟩
 rw [← hFX] at tX
 rw [← hFY] at tY
 have aX : ∀ G : Cells, Apart G2 G → Apart G3 G → (∀ z, z ∈ kidsx → Apart z.F G) → Apart FX G := fun G h1 h2 h3 q o a b => by
   rw [hFX] at a
   rcases a with a | a | ⟨z, hz, a⟩
   · exact h1 q o a b
   · exact h2 q o a b
   · exact h3 z hz q o a b
 have aY : ∀ G : Cells, Apart G4 G → Apart G5 G → (∀ z, z ∈ kidsy → Apart z.F G) → Apart FY G := fun G h1 h2 h3 q o a b => by
   rw [hFY] at a
   rcases a with a | a | ⟨z, hz, a⟩
   · exact h1 q o a b
   · exact h2 q o a b
   · exact h3 z hz q o a b
 have rowX : ∀ i (r : RowD), R[i]? = some r → i ≠ 2 → i ≠ 3 → Apart FX r.F := fun i r hr n2 n3 => aX _ (HR.ap 2 i _ _ (fun e => n2 e.symm) g2 hr) (HR.ap 3 i _ _ (fun e => n3 e.symm) g3 hr) (fun z hz => (hout i r hr z (inx z hz)).symm)
 have rowY : ∀ i (r : RowD), R[i]? = some r → i ≠ 4 → i ≠ 5 → Apart FY r.F := fun i r hr n2 n3 => aY _ (HR.ap 4 i _ _ (fun e => n2 e.symm) g4 hr) (HR.ap 5 i _ _ (fun e => n3 e.symm) g5 hr) (fun z hz => (hout i r hr z (iny z hz)).symm)
 have oX : ∀ z, z ∈ pre ∨ z ∈ post → Apart FX z.F := fun z hz => aX _ (hout 2 _ g2 z (hz.elim (inp z) (inq z))) (hout 3 _ g3 z (hz.elim (inp z) (inq z))) (fun u hu => by
   rcases hz with hz | hz
   · exact (a5 z.F (memF hz) u.F (List.mem_append_left _ (memF hu))).symm
   · exact a7 u.F (List.mem_append_right _ (List.mem_append_left _ (memF hu))) z.F (memF hz))
 have oY : ∀ z, z ∈ pre ∨ z ∈ post → Apart FY z.F := fun z hz => aY _ (hout 4 _ g4 z (hz.elim (inp z) (inq z))) (hout 5 _ g5 z (hz.elim (inp z) (inq z))) (fun u hu => by
   rcases hz with hz | hz
   · exact (a5 z.F (memF hz) u.F (List.mem_append_right _ (memF hu))).symm
   · exact a7 u.F (List.mem_append_right _ (List.mem_append_right _ (memF hu))) z.F (memF hz))
 have hXY : Apart FX FY := aX _ (rowY 2 _ g2 (by omega) (by omega)).symm (rowY 3 _ g3 (by omega) (by omega)).symm (fun z hz => (aY _ (hout 4 _ g4 z (inx z hz)) (hout 5 _ g5 z (inx z hz)) (fun u hu => (a4 z.F (memF hz) u.F (memF hu)).symm)).symm)
 have hkk : (pre ++ (⟨v2, v3, FX, .mk kx (kidsx.map KidT.t)⟩ : KidT) :: ⟨v4, v5, FY, .mk ky (kidsy.map KidT.t)⟩ :: post).map KidT.pair = pre.map KidT.pair ++ (v2, v3) :: (v4, v5) :: post.map KidT.pair := by simp [KidT.pair]
 have hkt : (pre ++ (⟨v2, v3, FX, .mk kx (kidsx.map KidT.t)⟩ : KidT) :: ⟨v4, v5, FY, .mk ky (kidsy.map KidT.t)⟩ :: post).map KidT.t = pre.map KidT.t ++ .mk kx (kidsx.map KidT.t) :: .mk ky (kidsy.map KidT.t) :: post.map KidT.t := by simp
 have rowout : ∀ i (r : RowD), R[i]? = some r → i < 2 → ∀ G, G ∈ (pre ++ (⟨v2, v3, FX, .mk kx (kidsx.map KidT.t)⟩ : KidT) :: ⟨v4, v5, FY, .mk ky (kidsy.map KidT.t)⟩ :: post).map KidT.F → Apart r.F G := fun i r hr hi G hG => by
   obtain ⟨z, hz, rfl⟩ := List.mem_map.1 hG
   simp only [List.mem_append, List.mem_cons] at hz
   rcases hz with hz | rfl | rfl | hz
   · exact hout i r hr z (inp z hz)
   · exact (rowX i r hr (by omega) (by omega)).symm
   · exact (rowY i r hr (by omega) (by omega)).symm
   · exact hout i r hr z (inq z hz)
 have hT := Td.build (ks := k) (kids := pre ++ (⟨v2, v3, FX, .mk kx (kidsx.map KidT.t)⟩ : KidT) :: ⟨v4, v5, FY, .mk ky (kidsy.map KidT.t)⟩ :: post) (HR.ints 0 g0) (by rw [hkk]; exact HR.trees 1 g1) (fun z hz => by
   simp only [List.mem_append, List.mem_cons] at hz
   rcases hz with hz | rfl | rfl | hz
   · exact hTd z (inp z hz)
   · exact tX
   · exact tY
   · exact hTd z (inq z hz)) (by
   refine List.pairwise_cons.2 ⟨fun G hG => ?_, List.pairwise_cons.2 ⟨rowout 1 _ g1 (by omega), ?_⟩⟩
   · rcases List.mem_cons.1 hG with rfl | hG
     · exact HR.ap 0 1 _ _ (by omega) g0 g1
     · exact rowout 0 _ g0 (by omega) G hG
   · rw [List.map_append, List.map_cons, List.map_cons, List.pairwise_append, List.pairwise_cons, List.pairwise_cons]
     refine ⟨a1, ⟨fun G hG => ?_, fun G hG => ?_, a6⟩, fun G hG H hH => ?_⟩
     · rcases List.mem_cons.1 hG with rfl | hG
       · exact hXY
       · obtain ⟨z, hz, rfl⟩ := List.mem_map.1 hG
         exact oX z (.inr hz)
     · obtain ⟨z, hz, rfl⟩ := List.mem_map.1 hG
       exact oY z (.inr hz)
     · obtain ⟨z, hz, rfl⟩ := List.mem_map.1 hG
       rcases List.mem_cons.1 hH with rfl | hH
       · exact (oX z (.inl hz)).symm
       · rcases List.mem_cons.1 hH with rfl | hH
         · exact (oY z (.inl hz)).symm
         · exact a7 z.F (List.mem_append_left _ (memF hz)) H hH)
 rw [hkt] at hT
 have sub : ∀ i (r : RowD), R[i]? = some r → ∀ q o, r.F q o → F q o ∨ w.heap.size ≤ q := fun i r hr q o a => (HR.sub i r hr q o a).imp (hCH q o) id
 refine ⟨_, hT, fun q o a => ?_, hKF⟩
 rcases a with a | a | ⟨z, hz, a⟩
 · exact sub 0 _ g0 q o a
 · exact sub 1 _ g1 q o a
 · simp only [List.mem_append, List.mem_cons] at hz
   rcases hz with hz | rfl | rfl | hz
   · exact .inl ((hall z (inp z hz)).2.2 q o a)
   · have a' : FX q o := a
     rw [hFX] at a'
     rcases a' with a' | a' | ⟨z, hz, a'⟩
     · exact sub 2 _ g2 q o a'
     · exact sub 3 _ g3 q o a'
     · exact .inl ((hall z (inx z hz)).2.2 q o a')
   · have a' : FY q o := a
     rw [hFY] at a'
     rcases a' with a' | a' | ⟨z, hz, a'⟩
     · exact sub 4 _ g4 q o a'
     · exact sub 5 _ g5 q o a'
     · exact .inl ((hall z (iny z hz)).2.2 q o a')
   · exact .inl ((hall z (inq z hz)).2.2 q o a)
theorem oneShut {w W : World} {F CH : Cells} {R : List RowD} {kv cv v2 v3 : Value} {G0 G1 G2 G3 : Cells} {k kx : List Int} {pre post kidsx : List KidT} (HR : HeldR w CH W R)
   (g0 : R[0]? = some (intsD G0 kv k)) (g1 : R[1]? = some (treesD G1 cv (pre.map KidT.pair ++ (v2, v3) :: post.map KidT.pair)))
   (g2 : R[2]? = some (intsD G2 v2 kx)) (g3 : R[3]? = some (treesD G3 v3 (kidsx.map KidT.pair)))
   (hall : ∀ z, z ∈ pre ++ kidsx ++ post → Td w z.F z.kv z.cv z.t ∧ Apart z.F CH ∧ ∀ q o, z.F q o → F q o) (ap : ((pre ++ kidsx ++ post).map KidT.F).Pairwise Apart) (hCH : ∀ q o, CH q o → F q o) :
   ∃ F', Td W F' kv cv (.mk k (pre.map KidT.t ++ .mk kx (kidsx.map KidT.t) :: post.map KidT.t)) ∧ (∀ q o, F' q o → F q o ∨ w.heap.size ≤ q) ∧ KeptF F w W := by
 have hKF : KeptF F w W := HR.kept.mono (fun q o _ e => hCH q o e)
 have hTd : ∀ z, z ∈ pre ++ kidsx ++ post → Td W z.F z.kv z.cv z.t := fun z hz => (hall z hz).1.keep HR.kept (hall z hz).2.1
 have hout : ∀ i (r : RowD), R[i]? = some r → ∀ z, z ∈ pre ++ kidsx ++ post → Apart r.F z.F := fun i r hr z hz q o a b => by
   rcases HR.sub i r hr q o a with h | h
   · exact (hall z hz).2.1 q o b h
   · have := (hall z hz).1.lt q o b; omega
 have inx : ∀ z, z ∈ kidsx → z ∈ pre ++ kidsx ++ post := fun z hz => by simp [hz]
 have inp : ∀ z, z ∈ pre → z ∈ pre ++ kidsx ++ post := fun z hz => by simp [hz]
 have inq : ∀ z, z ∈ post → z ∈ pre ++ kidsx ++ post := fun z hz => by simp [hz]
 rw [List.map_append, List.map_append, List.pairwise_append, List.pairwise_append] at ap
 obtain ⟨⟨a1, a2, a5⟩, a6, a7⟩ := ap
 have memF : ∀ {z : KidT} {l : List KidT}, z ∈ l → z.F ∈ l.map KidT.F := fun h => List.mem_map_of_mem h
 have tX := Td.build (ks := kx) (kids := kidsx) (HR.ints 2 g2) (HR.trees 3 g3) (fun z hz => hTd z (inx z hz)) (by
   refine List.pairwise_cons.2 ⟨fun G hG => ?_, List.pairwise_cons.2 ⟨fun G hG => ?_, a2⟩⟩
   · rcases List.mem_cons.1 hG with rfl | hG
     · exact HR.ap 2 3 _ _ (by omega) g2 g3
     · obtain ⟨z, hz, rfl⟩ := List.mem_map.1 hG
       exact hout 2 _ g2 z (inx z hz)
   · obtain ⟨z, hz, rfl⟩ := List.mem_map.1 hG
     exact hout 3 _ g3 z (inx z hz))
 obtain ⟨FX, hFX⟩ : ∃ FX : Cells, FX = fun x o => G2 x o ∨ G3 x o ∨ ∃ z, z ∈ kidsx ∧ z.F x o := ⟨_, rfl⟩
 rw [← hFX] at tX
 have aX : ∀ G : Cells, Apart G2 G → Apart G3 G → (∀ z, z ∈ kidsx → Apart z.F G) → Apart FX G := fun G h1 h2 h3 q o a b => by
   rw [hFX] at a
   rcases a with a | a | ⟨z, hz, a⟩
   · exact h1 q o a b
   · exact h2 q o a b
   · exact h3 z hz q o a b
 have rowX : ∀ i (r : RowD), R[i]? = some r → i ≠ 2 → i ≠ 3 → Apart FX r.F := fun i r hr n2 n3 => aX _ (HR.ap 2 i _ _ (fun e => n2 e.symm) g2 hr) (HR.ap 3 i _ _ (fun e => n3 e.symm) g3 hr) (fun z hz => (hout i r hr z (inx z hz)).symm)
 have oX : ∀ z, z ∈ pre ∨ z ∈ post → Apart FX z.F := fun z hz => aX _ (hout 2 _ g2 z (hz.elim (inp z) (inq z))) (hout 3 _ g3 z (hz.elim (inp z) (inq z))) (fun u hu => by
   rcases hz with hz | hz
   · exact (a5 z.F (memF hz) u.F (memF hu)).symm
   · exact a7 u.F (List.mem_append_right _ (memF hu)) z.F (memF hz))
 have hkk : (pre ++ (⟨v2, v3, FX, .mk kx (kidsx.map KidT.t)⟩ : KidT) :: post).map KidT.pair = pre.map KidT.pair ++ (v2, v3) :: post.map KidT.pair := by simp [KidT.pair]
 have hkt : (pre ++ (⟨v2, v3, FX, .mk kx (kidsx.map KidT.t)⟩ : KidT) :: post).map KidT.t = pre.map KidT.t ++ .mk kx (kidsx.map KidT.t) :: post.map KidT.t := by simp
 have rowout : ∀ i (r : RowD), R[i]? = some r → i < 2 → ∀ G, G ∈ (pre ++ (⟨v2, v3, FX, .mk kx (kidsx.map KidT.t)⟩ : KidT) :: post).map KidT.F → Apart r.F G := fun i r hr hi G hG => by
   obtain ⟨z, hz, rfl⟩ := List.mem_map.1 hG
   simp only [List.mem_append, List.mem_cons] at hz
   rcases hz with hz | rfl | hz
   · exact hout i r hr z (inp z hz)
   · exact (rowX i r hr (by omega) (by omega)).symm
   · exact hout i r hr z (inq z hz)
 have hT := Td.build (ks := k) (kids := pre ++ (⟨v2, v3, FX, .mk kx (kidsx.map KidT.t)⟩ : KidT) :: post) (HR.ints 0 g0) (by rw [hkk]; exact HR.trees 1 g1) (fun z hz => by
   simp only [List.mem_append, List.mem_cons] at hz
   rcases hz with hz | rfl | hz
   · exact hTd z (inp z hz)
   · exact tX
   · exact hTd z (inq z hz)) (by
   refine List.pairwise_cons.2 ⟨fun G hG => ?_, List.pairwise_cons.2 ⟨rowout 1 _ g1 (by omega), ?_⟩⟩
   · rcases List.mem_cons.1 hG with rfl | hG
     · exact HR.ap 0 1 _ _ (by omega) g0 g1
     · exact rowout 0 _ g0 (by omega) G hG
   · rw [List.map_append, List.map_cons, List.pairwise_append, List.pairwise_cons]
     refine ⟨a1, ⟨fun G hG => ?_, a6⟩, fun G hG H hH => ?_⟩
     · obtain ⟨z, hz, rfl⟩ := List.mem_map.1 hG
       exact oX z (.inr hz)
     · obtain ⟨z, hz, rfl⟩ := List.mem_map.1 hG
       rcases List.mem_cons.1 hH with rfl | hH
       · exact (oX z (.inl hz)).symm
       · exact a7 z.F (List.mem_append_left _ (memF hz)) H hH)
 rw [hkt] at hT
 have sub : ∀ i (r : RowD), R[i]? = some r → ∀ q o, r.F q o → F q o ∨ w.heap.size ≤ q := fun i r hr q o a => (HR.sub i r hr q o a).imp (hCH q o) id
 refine ⟨_, hT, fun q o a => ?_, hKF⟩
 rcases a with a | a | ⟨z, hz, a⟩
 · exact sub 0 _ g0 q o a
 · exact sub 1 _ g1 q o a
 · simp only [List.mem_append, List.mem_cons] at hz
   rcases hz with hz | rfl | hz
   · exact .inl ((hall z (inp z hz)).2.2 q o a)
   · have a' : FX q o := a
     rw [hFX] at a'
     rcases a' with a' | a' | ⟨z, hz, a'⟩
     · exact sub 2 _ g2 q o a'
     · exact sub 3 _ g3 q o a'
     · exact .inl ((hall z (inx z hz)).2.2 q o a')
   · exact .inl ((hall z (inq z hz)).2.2 q o a)
end Go.Proofs.Ytananonjomfpkaa

/- The contract of insertBelow. -/
import Derived.Test.YtananonjomfpkaaQfS9
namespace Go.Proofs.Ytananonjomfpkaa
open Go.RowKit
namespace Tr
def Fits : Tr → Prop | .mk k c => k.Pairwise (· < ·) ∧ (c.length = 0 ∨ c.length = k.length + 1) ∧ ∀ i (h : i < c.length), Well c[i]
theorem Well.fits {t : Tr} (h : Well t) : Fits t := by
 cases t with
 | mk k c =>
   refine ⟨h.keys, ?_, fun i hi => h.kid i hi⟩
   by_cases h0 : c.length = 0
   · exact .inl h0
   · exact .inr (h.inner h0)
def Shaped (t : Tr) : Prop := t.cs.length = 0 ∨ t.cs.length = t.ks.length + 1
theorem growStep_shaped (wide : Int) (k : List Int) (c : List Tr) (i : Nat) (r : Tr × Nat) (hi : i < c.length) (hc : c.length = k.length + 1) : Shaped (growStep wide k c i r).1 := by
 unfold growStep
 split
 · right
   show (c.take i ++ r.1.leftOf :: r.1.rightOf :: c.drop (i + 1)).length = (putAt k i r.1.midOf).length + 1
   rw [putAt_length (by omega)]
   simp; omega
 · right
   show (setKid c i r.1).length = k.length + 1
   rw [setKid_length hi, hc]
theorem grow_shaped (wide key : Int) (t : Tr) (h : Fits t) : Shaped (grow wide key t).1 := by
 cases t with
 | mk k c =>
   have hp := place_le key k
   by_cases h0 : c.length = 0
   · rw [grow_leaf h0]; exact .inl rfl
   · have hc : c.length = k.length + 1 := h.2.1.resolve_left h0
     rw [grow_inner (by omega)]
     exact growStep_shaped _ _ _ _ _ (by omega) hc
theorem splitKid_set (k : List Int) (c : List Tr) (i : Nat) (u : Tr) (hi : i < c.length) : splitKid k (setKid c i u) i u = splitKid k c i u := by
 unfold splitKid setKid
 have hl : (c.take i).length = i := by simp; omega
 rw [List.take_left' hl]
 rw [show c.take i ++ u :: c.drop (i + 1) = (c.take i ++ [u]) ++ c.drop (i + 1) by simp, List.drop_left' (by simp; omega)]
theorem setKid_mid (A B : List Tr) (x u : Tr) : setKid (A ++ x :: B) A.length u = A ++ u :: B := by
 unfold setKid
 rw [List.take_left' rfl, show A ++ x :: B = (A ++ [x]) ++ B by simp, List.drop_left' (by simp)]
end Tr
theorem set_sep {n0 b : Nat} {Fk Fc FX : Cells} {pre post : List KidD} {x : KidD} {px : Nat} {tx : Tr} (hs : Sep b Fk Fc (pre ++ x :: post))
   (hb : b < n0) (lk : ∀ q r, Fk q r → q < n0) (lc : ∀ q r, Fc q r → q < n0) (ly : ∀ y, y ∈ pre ++ x :: post → ∀ q r, y.F q r → q < n0)
   (hX : ∀ q r, FX q r → x.F q r ∨ n0 ≤ q) : Sep b Fk Fc (pre ++ ⟨px, FX, tx⟩ :: post) := by
 have mx : x ∈ pre ++ x :: post := by simp
 have mp : ∀ {y}, y ∈ pre → y ∈ pre ++ x :: post := fun h => by simp [h]
 have mq : ∀ {y}, y ∈ post → y ∈ pre ++ x :: post := fun h => by simp [h]
 have cases' : ∀ {P : KidD → Prop}, (∀ y, y ∈ pre ++ x :: post → P y) → P ⟨px, FX, tx⟩ → ∀ y, y ∈ pre ++ ⟨px, FX, tx⟩ :: post → P y := fun g1 g2 y hy => by
   simp only [List.mem_append, List.mem_cons] at hy
   rcases hy with hy | rfl | hy
   · exact g1 y (mp hy)
   · exact g2
   · exact g1 y (mq hy)
 refine ⟨hs.bk, hs.bc, cases' hs.bs (fun q r h g => ?_), hs.kc, cases' hs.ks (fun q r h g => ?_), cases' hs.cs (fun q r h g => ?_), ?_⟩
 · rcases hX _ _ g with g | g
   · exact hs.bs x mx _ _ h g
   · have : q = b := h; omega
 · rcases hX _ _ g with g | g
   · exact hs.ks x mx _ _ h g
   · have := lk _ _ h; omega
 · rcases hX _ _ g with g | g
   · exact hs.cs x mx _ _ h g
   · have := lc _ _ h; omega
 · have h := hs.ss
   rw [List.pairwise_append, List.pairwise_cons] at h ⊢
   obtain ⟨a1, ⟨a2, a3⟩, a4⟩ := h
   have fromX : ∀ {y}, y ∈ pre ++ x :: post → Apart x.F y.F → Apart FX y.F := fun hy ha q r h g => by
     rcases hX _ _ h with h' | h'
     · exact ha _ _ h' g
     · have := ly _ hy _ _ g; omega
   refine ⟨a1, ⟨fun y hy => fromX (mq hy) (a2 y hy), a3⟩, fun y hy z hz => ?_⟩
   rcases List.mem_cons.1 hz with rfl | hz
   · exact (fromX (mp hy) (a4 y hy x (by simp)).symm).symm
   · exact a4 y hy z (by simp [hz])
theorem KeptF.drewN (F : Cells) (w : World) (n : Nat) : KeptF F w (w.drewN n) := ⟨rfl, rfl, rfl, Nat.le_refl _, fun _ _ _ => rfl, fun _ _ _ _ => rfl, fun _ _ _ => rfl, fun _ _ h => h⟩
def GBox (w : World) (gb : Nat) (gn : Value) (wide : Int) (s : Nat) (gr : Value) : Prop := w.heap[gb]? = some (.cells #[gn, .int .i64 wide, .int .i64 (s : Int), gr] 119 (0, 0))
theorem GBox.cells {w : World} {gb : Nat} {gn : Value} {wide : Int} {s : Nat} {gr : Value} (h : GBox w gb gn wide s gr) :
   w.cell? ⟨gb, 0, none⟩ = some gn ∧ w.cell? ⟨gb, 1, none⟩ = some (.int .i64 wide) ∧ w.cell? ⟨gb, 2, none⟩ = some (.int .i64 (s : Int)) ∧ w.cell? ⟨gb, 3, none⟩ = some gr ∧
   w.frozen? ⟨gb, 0, none⟩ = false ∧ w.frozen? ⟨gb, 2, none⟩ = false ∧ w.frozen? ⟨gb, 3, none⟩ = false := by
 unfold GBox at h
 refine ⟨?_, ?_, ?_, ?_, ?_, ?_, ?_⟩ <;> simp [World.cell?, World.frozen?, h]
def Stays (w w' : World) (F : Cells) (b : Nat) (t' : Tr) : Prop :=
 ∀ (kv : Value) (cb co n cc p : Nat) (u0 : Tr), t' = .mk [] [u0] → w.heap[b]? = some (.cells #[kv, .slice (some ⟨cb, co, none⟩) n cc] 99 (0, 0)) →
   w.cell? ⟨cb, co, none⟩ = some (.pointer (some ⟨p, 0, none⟩)) → ∃ FX, Nd w' FX p u0 ∧ (∀ x o, FX x o → F x o ∨ w.heap.size ≤ x)
def Grown (w : World) (F : Cells) (b gb : Nat) (gn : Value) (wide : Int) (s : Nat) (gr : Value) (r : Tr × Nat) (e : Ending) (w' : World) : Prop :=
 ∃ F', e = .returned (.tuple #[]) ∧ Nd w' F' b r.1 ∧ (∀ x o, F' x o → F x o ∨ w.heap.size ≤ x) ∧ KeptF (fun x o => F x o ∨ x = gb) w w' ∧ GBox w' gb gn wide (s + r.2) gr ∧ Stays w w' F b r.1
-- 119
theorem rowF_in {w : World} {F : Cells} {v : Value} {k : List Int} (h : RowF w F v (k.map (Value.int .i64))) : IntsIn w w.heap.size v k := by
 obtain ⟨_, ka, kcap, rfl, k1, k2, k3, k4⟩ := h
 refine ⟨ka, kcap, by simp, by simpa using k1, k2, k3, ?_⟩
 rcases k4 with k4 | ⟨kb, ko, rfl, g1, g2⟩
 · subst k4
   simp at k1
   exact .inl k1
 · by_cases hks : k = []
   · exact .inl hks
   · have hpos : 0 < k.length := by cases k <;> simp_all
     refine .inr ⟨kb, ko, rfl, lt_of_there (o := ko + 0) (g1 0 (by simp at k1; omega)).2.1, fun i hi => ?_⟩
     rw [g2 i (by simpa using hi)]
     simp [hi]
set_option maxRecDepth 100000 in
set_option maxHeartbeats 4000000 in
theorem insertBelow_c (wide key : Int) (hwide : 2 ≤ wide ∧ wide ≤ 6) : ∀ (N : Nat) (t : Tr), t.weight ≤ N → N ≤ 100000 → Tr.Fits t → ∀ (w : World) (F : Cells) (b gb : Nat) (gn gr : Value) (s : Nat), Nd w F b t → GBox w gb gn wide s gr → (∀ o, ¬ F gb o) → s + t.weight ≤ 900000000 →
   Calls Try.prog 134 #[.pointer (some ⟨gb, 0, none⟩), .pointer (some ⟨b, 0, none⟩), .int .i64 key] w (Grown w F b gb gn wide s gr (Tr.grow wide key t)) := by
 intro N
 induction N using Nat.strongRecOn with
 | _ N ih =>
   intro t hw hN hfit w F b gb gn gr s h hg hgF hs9
   obtain ⟨k, c⟩ := t
   obtain ⟨hsort, hshape, hwell⟩ := hfit
   obtain ⟨kids, Fk, Fc, kv, cv, rfl, hbox, hkr, hcr, hkids, sb, sk, sc, ss, ap, hlt⟩ := h.parts
   have hlk := hkr.1
   have hlc := hcr.1
   have hblt := (Array.getElem?_eq_some_iff.1 hbox).1
   have hglt := (Array.getElem?_eq_some_iff.1 hg).1
   have hs := sep_iff.1 ap
   have hgb : gb ≠ b := fun e => hgF 0 (e ▸ sb 0)
   obtain ⟨ka, kc, rfl⟩ := hkr.shown
   obtain ⟨ca, cc, rfl⟩ := hcr.shown
   simp only [List.length_map] at hbox hkr hcr hshape
   have hkw : k.length + kids.length ≤ N := by
     have := Tr.length_le_weights (kids.map KidD.t)
     simp only [Tr.weight, List.length_map] at hw this
     omega
   have hple := place_le key k
   obtain ⟨i, hi⟩ : ∃ i, i = place key k := ⟨_, rfl⟩
   rw [← hi] at hple
   have hin := rowF_in (k := k) hkr
   obtain ⟨x1, x2, x3, x4⟩ := box2 hbox
   have HBOX := Lib.hid (And.intro hbox hg)
   have HR := Lib.hid (And.intro hkr hcr)
   have HK := Lib.hid (And.intro hkids (And.intro sb (And.intro sk (And.intro sc (And.intro ss hs)))))
   have HL := Lib.hid (And.intro hlk (And.intro hlc hlt))
   have HI := Lib.hid hi
   have HIH := Lib.hid ih
   have HW := Lib.hid hwell
   have HSORT := Lib.hid hsort
   have HSH := Lib.hid hshape
   have HIN := Lib.hid hin
   have HGF := Lib.hid hgF
   have HWT := Lib.hid (And.intro hw hs9)
   clear hlk hlc hlt hkr hcr hkids sb sk sc ss hs ap h hbox hg hi ih hwell hsort hshape hin hgF hw hs9
   go_enter Try.func134, Try.ntmps134
   go_upto_region 0 with (fail)
   go_cut [6] from 7 to 15 (fun s6 wc => s6 = .int .i64 (i : Int) ∧ KeptF (fun _ _ => False) w wc)
   case first =>
     go_region_with (first
       | (go_at_call 70; refine (less_c key _).mono ?_; rintro e w9 ⟨rfl, rfl⟩)
       | (go_at_call 105; refine (place_less_c _ w.heap.size (HIN.out.later (C := w.heap.size) (((Below.refl w.heap.size w).drew).alloc (Nat.le_refl _) _) (Nat.le_refl _)) HSORT.out (by omega) key key (Lib.hid rfl) _ (box1 (new_blk w.drew _)).1).mono ?_; rintro e w9 ⟨rfl, rfl⟩))
     all_goals (
       go_wp2_with fail
       go_meet
       exact ⟨by rw [HI.out], (KeptF.alloc _ _ _).trans (KeptF.drew _ _)⟩)
   case rest =>
     obtain ⟨rfl, hkc⟩ := hcut
     have hsc := hkc.size
     have hbc := hkc.block' HBOX.out.1 (fun _ h => h)
     have hgc := hkc.block' HBOX.out.2 (fun _ h => h)
     have hkrc : RowF wc Fk (.slice ka k.length kc) (k.map (Value.int .i64)) := HR.out.1.keep hkc (fun _ _ _ h => h)
     have hcrc : RowF wc Fc (.slice ca kids.length cc) (kids.map KidD.ptr) := HR.out.2.keep hkc (fun _ _ _ h => h)
     have hkk : ∀ y, y ∈ kids → Nd wc y.F y.p y.t := fun y hy => (HK.out.1 y hy).keep hkc (fun _ _ _ h => h)
     clear x1 x2 x3 x4
     obtain ⟨x1, x2, x3, x4⟩ := box2 hbc
     have HKC := Lib.hid (And.intro hkc (And.intro hbc (And.intro hgc (And.intro hkrc (And.intro hcrc hkk)))))
     clear hkc hbc hgc hkrc hcrc hkk
     by_cases hleaf : kids.length = 0
     · have hl' : ((kids.length : Int) == 0) = true := by simp [hleaf]
       have hk0 : kids = [] := List.length_eq_zero_iff.1 hleaf
       have HK0 := Lib.hid hk0
       clear hk0 hleaf
       go_wp2_with fail
       refine (putInts_c wc Fk _ _ i key HKC.out.2.2.2.1 (by simpa using hple) (ints_oneCell .i64 k) (by rw [List.length_map]; omega)).mono ?_
       rintro e w2 ⟨v2, F2, rfl, hr2, hF2, hk2⟩
       obtain ⟨va2, vc2, rfl⟩ := hr2.shown
       have hb2 := hk2.block' HKC.out.2.1 (fun q h => HK.out.2.2.2.2.2.bk b q rfl h)
       clear x1 x2 x3 x4
       obtain ⟨x1, x2, x3, x4⟩ := box2 hb2
       have H2 := Lib.hid (And.intro hr2 (And.intro hF2 (And.intro hk2 hb2)))
       clear hr2 hF2 hk2 hb2
       go_wp2_with fail
       obtain ⟨hr2, hF2, hk2, hb2⟩ := H2.out
       obtain ⟨hkids, sb, sk, sc, ss, hs⟩ := HK.out
       obtain ⟨hkc, hbc, hgc, hkrc, hcrc, hkk⟩ := HKC.out
       obtain ⟨hlk, hlc, hlt⟩ := HL.out
       have hk0 := HK0.out
       subst hk0
       have hgF := HGF.out
       have hsz2 := hk2.size
       obtain ⟨W6, hW6⟩ : ∃ W6, W6 = w2.setCell ⟨b, 0, none⟩ (.slice va2 (putAt (k.map (Value.int .i64)) i (.int .i64 key)).length vc2) := ⟨_, rfl⟩
       rw [← hW6]
       have hk6 : KeptF (boxOf b) w2 W6 := by rw [hW6]; exact KeptF.setCell _ _ _ _ rfl
       have hb6 : W6.heap[b]? = some (.cells #[.slice va2 (putAt (k.map (Value.int .i64)) i (.int .i64 key)).length vc2, .slice ca 0 cc] 99 (0, 0)) := by rw [hW6]; exact set_blk (o := 0) _ hb2
       have hrk : RowF W6 F2 (.slice va2 (putAt (k.map (Value.int .i64)) i (.int .i64 key)).length vc2) ((putAt k i key).map (Value.int .i64)) := by
         rw [putAt_map]
         refine hr2.keep hk6 (fun q r h g => ?_)
         have g' : q = b := g
         rcases hF2 q r h with h' | h'
         · exact hs.bk _ _ g h'
         · omega
       have hrc : RowF W6 Fc (.slice ca 0 cc) (([] : List KidD).map KidD.ptr) := (hcrc.keep hk2 (fun q r h g => hs.kc _ _ g h)).keep hk6 (fun q r h g => hs.bc _ _ g h)
       have hsep : Sep b F2 Fc [] := by
         refine ⟨fun q r h g => ?_, hs.bc, fun y hy => by simp at hy, fun q r h g => ?_, fun y hy => by simp at hy, fun y hy => by simp at hy, List.Pairwise.nil⟩
         · have g' : q = b := h
           rcases hF2 q r g with h' | h'
           · exact hs.bk _ _ h h'
           · omega
         · rcases hF2 q r h with h' | h'
           · exact hs.kc _ _ h' g
           · have := hlc q r g; omega
       have hnd := Nd.intro hb6 hrk hrc (fun y hy => by simp at hy) hsep
       have hgr : Tr.grow wide key (.mk k (([] : List KidD).map KidD.t)) = (.mk (putAt k i key) [], 0) := by rw [HI.out]; exact Tr.grow_leaf rfl
       refine bodyPost_ret (v := .tuple #[]) (by simp [results, Try.results134, go_sem]) rfl ?_
       rw [hgr]
       refine ⟨_, rfl, hnd, ?_, ?_, ?_, fun kv cb co n cc p u0 e => by injection e with e1 e2; cases e2⟩
       · rintro q r (h | h | h | ⟨y, hy, h⟩)
         · subst h; exact .inl (sb r)
         · exact (hF2 q r h).imp (sk q r) (fun h => by omega)
         · exact .inl (sc q r h)
         · simp at hy
       · have a1 := hkc.mono (G := fun q r => F q r ∨ q = gb) (fun _ _ _ h => h.elim)
         have a2 := a1.trans (hk2.mono (fun q r _ h => .inl (.inl (sk q r h))))
         exact a2.trans (hk6.mono (fun q r _ h => .inl (.inl (by have h' : q = b := h; subst h'; exact sb r))))
       · exact hk6.block' (hk2.block' hgc (fun q h => hgF q (sk _ _ h))) (fun q h => hgb h)
     · have hl' : ((kids.length : Int) == 0) = false := by simpa using hleaf
       have hcl : kids.length = k.length + 1 := HSH.out.resolve_left hleaf
       have hik : i < kids.length := by omega
       obtain ⟨pre, x, post, hkd, hpre⟩ : ∃ pre x post, kids = pre ++ x :: post ∧ pre.length = i :=
         ⟨kids.take i, kids[i], kids.drop (i + 1), by rw [← List.drop_eq_getElem_cons hik, List.take_append_drop], by simp; omega⟩
       obtain ⟨p, Fx, tx⟩ := x
       subst hkd
       obtain ⟨n, hnl⟩ : ∃ n, n = (pre ++ (⟨p, Fx, tx⟩ : KidD) :: post).length := ⟨_, rfl⟩
       rw [← hnl] at hl' hcl hik hkw
       have hci := HKC.out.2.2.2.2.1
       obtain ⟨_, ca', cc', hv, c1, c2, c3, c4⟩ := hci
       simp only [Value.slice.injEq, List.length_map] at hv
       obtain ⟨rfl, _, rfl⟩ := hv
       rw [List.length_map, ← hnl] at c1
       rcases c4 with c4 | ⟨cb, co, rfl, c5, c6⟩
       · omega
       have hcell : wc.cell? ⟨cb, co + i, none⟩ = some (.pointer (some ⟨p, 0, none⟩)) := by
         rw [c6 i (by rw [List.length_map, ← hnl]; exact hik)]
         simp [KidD.ptr, ← hpre]
       unfold maxLen at c2
       rw [← hnl] at x2
       have mx : (⟨p, Fx, tx⟩ : KidD) ∈ pre ++ (⟨p, Fx, tx⟩ : KidD) :: post := by simp
       have htw : tx.weight + 1 ≤ N := by
         have h1 := Tr.weight_get_le ((pre ++ (⟨p, Fx, tx⟩ : KidD) :: post).map KidD.t) i (by rw [List.length_map, ← hnl]; exact hik)
         have h2 := HWT.out.1
         simp only [Tr.weight] at h2
         have h3 : ((pre ++ (⟨p, Fx, tx⟩ : KidD) :: post).map KidD.t)[i]'(by rw [List.length_map, ← hnl]; exact hik) = tx := by simp [← hpre]
         rw [h3] at h1
         have h4 : ((pre ++ (⟨p, Fx, tx⟩ : KidD) :: post).map KidD.t).length = n := by rw [List.length_map, ← hnl]
         omega
       have hts : s + tx.weight + 1 ≤ 900000000 := by
         have h1 := Tr.weight_get_le ((pre ++ (⟨p, Fx, tx⟩ : KidD) :: post).map KidD.t) i (by rw [List.length_map, ← hnl]; exact hik)
         have h2 := HWT.out.2
         simp only [Tr.weight] at h2
         have h3 : ((pre ++ (⟨p, Fx, tx⟩ : KidD) :: post).map KidD.t)[i]'(by rw [List.length_map, ← hnl]; exact hik) = tx := by simp [← hpre]
         rw [h3] at h1
         have h4 : ((pre ++ (⟨p, Fx, tx⟩ : KidD) :: post).map KidD.t).length = n := by rw [List.length_map, ← hnl]
         omega
       have hwx : Tr.Well tx := by
         have h1 := HW.out i (by rw [List.length_map, ← hnl]; exact hik)
         have h3 : ((pre ++ (⟨p, Fx, tx⟩ : KidD) :: post).map KidD.t)[i]'(by rw [List.length_map, ← hnl]; exact hik) = tx := by simp [← hpre]
         rwa [h3] at h1
       have hgrow : Tr.grow wide key (.mk k ((pre ++ (⟨p, Fx, tx⟩ : KidD) :: post).map KidD.t)) = Tr.growStep wide k ((pre ++ (⟨p, Fx, tx⟩ : KidD) :: post).map KidD.t) i (Tr.grow wide key tx) := by
         have h3 : ((pre ++ (⟨p, Fx, tx⟩ : KidD) :: post).map KidD.t)[i]'(by rw [List.length_map, ← hnl]; exact hik) = tx := by simp [← hpre]
         have hpl : place key k < ((pre ++ (⟨p, Fx, tx⟩ : KidD) :: post).map KidD.t).length := by rw [← HI.out, List.length_map, ← hnl]; exact hik
         rw [Tr.grow_inner hpl]
         have e : ∀ (j : Nat) (hj : j < ((pre ++ (⟨p, Fx, tx⟩ : KidD) :: post).map KidD.t).length), j = i → Tr.growStep wide k ((pre ++ (⟨p, Fx, tx⟩ : KidD) :: post).map KidD.t) j (Tr.grow wide key (((pre ++ (⟨p, Fx, tx⟩ : KidD) :: post).map KidD.t)[j])) = Tr.growStep wide k ((pre ++ (⟨p, Fx, tx⟩ : KidD) :: post).map KidD.t) i (Tr.grow wide key tx) := by
           rintro j hj rfl
           rw [h3]
         exact e _ hpl HI.out.symm
       have hush := Tr.grow_shaped wide key tx hwx.fits
       have huk := Tr.grow_keys_le wide key tx
       have hux := Tr.grow_count wide key tx
       have hcall := HIH.out tx.weight (by omega) tx (Nat.le_refl _) (by omega) hwx.fits wc Fx p gb gn gr s (HKC.out.2.2.2.2.2 _ mx) HKC.out.2.2.1 (fun o h => HGF.out o (HK.out.2.2.2.2.1 _ mx _ _ h)) (by omega)
       obtain ⟨⟨u, m⟩, hum⟩ : ∃ r, r = Tr.grow wide key tx := ⟨_, rfl⟩
       rw [← hum] at hush huk hux hcall hgrow
       have htk : tx.ks.length ≤ N := by
         cases tx with
         | mk a c => simp only [Tr.weight] at htw; show a.length ≤ N; omega
       have hukN : u.ks.length ≤ N + 1 := by dsimp only at huk; omega
       dsimp only at hush huk hux
       have HC := Lib.hid hcall
       have HGR := Lib.hid hgrow
       have HUSH := Lib.hid hush
       have HPRE := Lib.hid (And.intro hpre hnl)
       have HC6 := Lib.hid (And.intro c5 c6)
       have HMX := Lib.hid mx
       clear hcall hgrow hush hpre hnl c3 c5 c6 mx hum hwx htw
       go_wp2_with fail
       refine HC.out.mono ?_
       rintro e w3 ⟨FX, rfl, hndX, hFX, hk3, hg3, -⟩
       obtain ⟨uk, uc⟩ := u
       clear huk
       dsimp only [Tr.ks, Tr.cs] at hukN hndX
       obtain ⟨kidsX, FkX, FcX, kvX, cvX, _, hboxX, hkrX, _⟩ := hndX.parts
       obtain ⟨kaX, kcX, rfl⟩ := hkrX.shown
       rw [List.length_map] at hboxX
       have hsz3 := hk3.size
       have hs := HK.out.2.2.2.2.2
       have hgF := HGF.out
       have hb3 := hk3.block' HKC.out.2.1 (fun q h => h.elim (fun h => hs.bs _ HMX.out b q rfl h) (fun h => hgb h.symm))
       have hkr3 := HKC.out.2.2.2.1.keep hk3 (fun q r h g => g.elim (fun g => hs.ks _ HMX.out q r h g) (fun g => hgF r (g ▸ HK.out.2.2.1 q r h)))
       have hcr3 := HKC.out.2.2.2.2.1.keep hk3 (fun q r h g => g.elim (fun g => hs.cs _ HMX.out q r h g) (fun g => hgF r (g ▸ HK.out.2.2.2.1 q r h)))
       rw [← HPRE.out.2] at hb3 hcr3
       rw [show (pre ++ (⟨p, Fx, tx⟩ : KidD) :: post).map KidD.ptr = (pre ++ (⟨p, FX, .mk uk uc⟩ : KidD) :: post).map KidD.ptr by simp [KidD.ptr]] at hcr3
       have hcell3 : w3.cell? ⟨cb, co + i, none⟩ = some (.pointer (some ⟨p, 0, none⟩)) := by
         have h5 := (HC6.out.1 i (by omega))
         rw [hk3.cell _ _ (lt_of_there h5.2.1) (fun g => g.elim (fun g => hs.cs _ HMX.out _ _ h5.1 g) (fun g => hgF _ (g ▸ HK.out.2.2.2.1 _ _ h5.1)))]
         exact hcell
       have hkids3 : ∀ y, y ∈ pre ++ (⟨p, FX, .mk uk uc⟩ : KidD) :: post → Nd w3 y.F y.p y.t := fun y hy => by
         have hss := hs.ss
         rw [List.pairwise_append, List.pairwise_cons] at hss
         simp only [List.mem_append, List.mem_cons] at hy
         have old : y ∈ pre ++ (⟨p, Fx, tx⟩ : KidD) :: post → Apart y.F Fx → Nd w3 y.F y.p y.t := fun hy ha => (HKC.out.2.2.2.2.2 y hy).keep hk3 (fun q r h g => g.elim (ha q r h) (fun g => hgF r (g ▸ HK.out.2.2.2.2.1 y hy q r h)))
         rcases hy with hy | rfl | hy
         · exact old (by simp [hy]) (hss.2.2 y hy (⟨p, Fx, tx⟩ : KidD) (by simp))
         · exact hndX
         · exact old (by simp [hy]) (hss.2.1.1 y hy).symm
       have hFX' : ∀ q r, FX q r → Fx q r ∨ wc.heap.size ≤ q := hFX
       have hsep3 : Sep b Fk Fc (pre ++ (⟨p, FX, .mk uk uc⟩ : KidD) :: post) :=
         set_sep (n0 := wc.heap.size) hs (by omega) (fun q r h => by have := HL.out.1 q r h; omega) (fun q r h => by have := HL.out.2.1 q r h; omega) (fun y hy q r h => by have := (HK.out.1 y hy).lt q r h; omega) hFX'
       obtain ⟨g0, g1, g2, g3, g4, g5, g6⟩ := hg3.cells
       obtain ⟨y1, y2, y3, y4⟩ := box2 hb3
       obtain ⟨z1, z2, z3, z4⟩ := box2 hboxX
       have H3 := Lib.hid (And.intro hndX (And.intro hFX' (And.intro hk3 (And.intro hg3 (And.intro hb3 (And.intro hkr3 (And.intro hcr3 (And.intro hkids3 hsep3))))))))
       clear hndX hFX hFX' hk3 hg3 hb3 hkr3 hcr3 hkids3 hsep3 hs hgF hboxX hkrX hcell x1 x2 x3 x4
       go_upto_region 4 with (fail)
       by_cases hbig : wide < (uk.length : Int)
       · have hbig' : (uk.length : Int) > wide := hbig
         go_quiet (fail)
         generalize hW4 : w3.drewN _ = w4
         obtain ⟨hndX, hFX, hk3, hg3, hb3, hkr3, hcr3, hkids3, hsep3⟩ := H3.out
         have hk4 : KeptF (fun _ _ => False) w3 w4 := by rw [← hW4]; exact KeptF.drewN _ _ _
         have hsz4 : w4.heap.size = w3.heap.size := by rw [← hW4]; rfl
         have F3def : ∀ q r, allOf b Fk Fc (pre ++ (⟨p, FX, .mk uk uc⟩ : KidD) :: post) q r → F q r ∨ wc.heap.size ≤ q := by
           rintro q r (h | h | h | ⟨y, hy, h⟩)
           · subst h; exact .inl (HK.out.2.1 r)
           · exact .inl (HK.out.2.2.1 q r h)
           · exact .inl (HK.out.2.2.2.1 q r h)
           · simp only [List.mem_append, List.mem_cons] at hy
             rcases hy with hy | rfl | hy
             · exact .inl (HK.out.2.2.2.2.1 y (by simp [hy]) q r h)
             · exact (hFX q r h).imp (HK.out.2.2.2.2.1 _ HMX.out q r) id
             · exact .inl (HK.out.2.2.2.2.1 y (by simp [hy]) q r h)
         have hcall := splitKid_c w4 (allOf b Fk Fc (pre ++ (⟨p, FX, .mk uk uc⟩ : KidD) :: post)) b k pre post ⟨p, FX, .mk uk uc⟩ (Fk := Fk) (Fc := Fc) (hk4.block' hb3 (fun _ h => h))
           (by have := hkr3.keep hk4 (fun _ _ _ h => h); exact this) (by have := hcr3.keep hk4 (fun _ _ _ h => h); exact this)
           (fun y hy => (hkids3 y hy).keep hk4 (fun _ _ _ h => h)) (fun o => .inl rfl) (fun q o h => .inr (.inl h)) (fun q o h => .inr (.inr (.inl h))) (fun y hy q o h => .inr (.inr (.inr ⟨y, hy, h⟩)))
           hsep3 (by show 3 ≤ uk.length; omega) HUSH.out (by rw [HPRE.out.1]; omega) (by show uk.length ≤ _; omega) (by omega) (by
             have e : (pre ++ (⟨p, FX, .mk uk uc⟩ : KidD) :: post).length = n := by rw [HPRE.out.2]; simp
             omega)
         rw [HPRE.out.1] at hcall
         have HC4 := Lib.hid hcall
         have H4 := Lib.hid (And.intro hk4 (And.intro hsz4 F3def))
         clear hW4 hndX hFX hk3 hg3 hb3 hkr3 hcr3 hkids3 hsep3 hk4 F3def hcall y1 y2 y3 y4 z1 z2 z3 z4 hcell3 g0 g1 g2 g3 g4 g5 g6
         go_wp2_with fail
         refine HC4.out.mono ?_
         rintro e w5 ⟨F5, rfl, hnd5, hF5, hk5⟩
         have hg5 : GBox w5 gb gn wide (s + m) gr := hk5.block' (H4.out.1.block' H3.out.2.2.2.1 (fun _ h => h)) (fun q h => (H4.out.2.2 gb q h).elim (fun h => HGF.out q h) (fun h => by omega))
         obtain ⟨S, hS⟩ : ∃ S, S = s + m := ⟨_, rfl⟩
         rw [← hS] at hg5
         have hS9 : S ≤ 900000000 := by omega
         obtain ⟨g0, g1, g2, g3, g4, g5, g6⟩ := hg5.cells
         have H5 := Lib.hid (And.intro hnd5 (And.intro hF5 (And.intro hk5 hg5)))
         have HS := Lib.hid hS
         clear hnd5 hF5 hk5 hg5 hS
         go_wp2_with fail
         obtain ⟨hnd5, hF5, hk5, hg5⟩ := H5.out
         obtain ⟨W6, hW6⟩ : ∃ W6, W6 = w5.setCell ⟨gb, 2, none⟩ (.int .i64 ((S : Int) + 1)) := ⟨_, rfl⟩
         rw [← hW6]
         have hk6 : KeptF (boxOf gb) w5 W6 := by rw [hW6]; exact KeptF.setCell _ _ _ _ rfl
         have hg6 : GBox W6 gb gn wide (S + 1) gr := by
           rw [hW6]
           have := set_blk (o := 2) (.int .i64 ((S : Int) + 1)) hg5
           unfold GBox
           rw [this]
           simp
         refine bodyPost_end (v := .tuple #[]) (by simp [results, Try.results134, go_sem]) rfl ?_
         rw [HGR.out]
         have hset : Tr.setKid ((pre ++ (⟨p, Fx, tx⟩ : KidD) :: post).map KidD.t) i (.mk uk uc) = (pre ++ (⟨p, FX, .mk uk uc⟩ : KidD) :: post).map KidD.t := by
           rw [List.map_append, List.map_cons, show i = (pre.map KidD.t).length by rw [List.length_map, HPRE.out.1], Tr.setKid_mid]; simp
         have hstep : Tr.growStep wide k ((pre ++ (⟨p, Fx, tx⟩ : KidD) :: post).map KidD.t) i (.mk uk uc, m) = (Tr.splitKid k ((pre ++ (⟨p, FX, .mk uk uc⟩ : KidD) :: post).map KidD.t) i (.mk uk uc), m + 1) := by
           rw [← hset, Tr.splitKid_set _ _ _ _ (by rw [List.length_map, ← HPRE.out.2]; omega)]
           unfold Tr.growStep
           exact if_pos hbig
         rw [hstep]
         have hsz4 := H4.out.2.1
         have hsz3' := H3.out.2.2.1.size
         have hF5' : ∀ q r, F5 q r → F q r ∨ wc.heap.size ≤ q := fun q r h => by
           rcases hF5 q r h with h | h
           · exact H4.out.2.2 q r h
           · right; omega
         refine ⟨F5, rfl, hnd5.keep hk6 (fun q r h g => ?_), fun q r h => (hF5' q r h).imp id (fun h => by omega), ?_, ?_, fun kv cb co n cc p u0 e => by unfold Tr.splitKid at e; injection e with e1 e2; have := congrArg List.length e1; simp [putAt] at this⟩
         · have g' : q = gb := g
           rcases hF5' q r h with h | h
           · exact HGF.out r (g' ▸ h)
           · omega
         · have a1 := HKC.out.1.mono (G := fun q r => F q r ∨ q = gb) (fun _ _ _ h => h.elim)
           have a2 := a1.trans (H3.out.2.2.1.mono (fun q r _ h => .inl (h.imp (HK.out.2.2.2.2.1 _ HMX.out q r) id)))
           have a3 := a2.trans (H4.out.1.mono (fun _ _ _ h => h.elim))
           have a4 := a3.trans (hk5.mono (fun q r _ h => (H4.out.2.2 q r h).imp .inl (fun h => by omega)))
           exact a4.trans (hk6.mono (fun q r _ h => .inl (.inr h)))
         · rw [HS.out] at hg6
           exact hg6
       · have hbig' : ¬ (uk.length : Int) > wide := hbig
         go_quiet (fail)
         go_wp2_with fail
         obtain ⟨hndX, hFX, hk3, hg3, hb3, hkr3, hcr3, hkids3, hsep3⟩ := H3.out
         refine bodyPost_end (v := .tuple #[]) (by simp [results, Try.results134, go_sem]) rfl ?_
         rw [show List.map KidD.t pre ++ tx :: List.map KidD.t post = List.map KidD.t (pre ++ (⟨p, Fx, tx⟩ : KidD) :: post) by simp, HGR.out]
         have hset : Tr.setKid ((pre ++ (⟨p, Fx, tx⟩ : KidD) :: post).map KidD.t) i (.mk uk uc) = (pre ++ (⟨p, FX, .mk uk uc⟩ : KidD) :: post).map KidD.t := by
           rw [List.map_append, List.map_cons, show i = (pre.map KidD.t).length by rw [List.length_map, HPRE.out.1], Tr.setKid_mid]; simp
         have hstep : Tr.growStep wide k ((pre ++ (⟨p, Fx, tx⟩ : KidD) :: post).map KidD.t) i (.mk uk uc, m) = (.mk k ((pre ++ (⟨p, FX, .mk uk uc⟩ : KidD) :: post).map KidD.t), m) := by
           rw [← hset]
           unfold Tr.growStep
           exact if_neg (by show ¬ (wide < (uk.length : Int)); omega)
         rw [hstep]
         have hk4 : KeptF (fun _ _ => False) w3 (w3.drewN nq) := KeptF.drewN _ _ _
         have hnd := (Nd.intro hb3 hkr3 hcr3 hkids3 hsep3).keep hk4 (fun _ _ _ h => h)
         refine ⟨_, rfl, hnd, ?_, ?_, hg3, ?_⟩
         · rintro q r (h | h | h | ⟨y, hy, h⟩)
           · subst h; exact .inl (HK.out.2.1 r)
           · exact .inl (HK.out.2.2.1 q r h)
           · exact .inl (HK.out.2.2.2.1 q r h)
           · simp only [List.mem_append, List.mem_cons] at hy
             rcases hy with hy | rfl | hy
             · exact .inl (HK.out.2.2.2.2.1 y (by simp [hy]) q r h)
             · exact (hFX q r h).imp (HK.out.2.2.2.2.1 _ HMX.out q r) (fun h => by omega)
             · exact .inl (HK.out.2.2.2.2.1 y (by simp [hy]) q r h)
         · have a1 := HKC.out.1.mono (G := fun q r => F q r ∨ q = gb) (fun _ _ _ h => h.elim)
           have a2 := a1.trans (hk3.mono (fun q r _ h => .inl (h.imp (HK.out.2.2.2.2.1 _ HMX.out q r) id)))
           exact a2.trans (hk4.mono (fun _ _ _ h => h.elim))
         · intro kv' cb' co' n' cc' p' u0 e hbx hcl
           injection e with e1 e2
           have hpp : pre = [] ∧ post = [] := by
             cases pre with
             | nil => cases post with
               | nil => exact ⟨rfl, rfl⟩
               | cons a r => simp at e2
             | cons a r => simp at e2
           obtain ⟨rfl, rfl⟩ := hpp
           have hu : Tr.mk uk uc = u0 := by simpa using e2
           have hb0 := HBOX.out.1
           rw [hbx] at hb0
           simp only [Option.some.injEq, Obj.cells.injEq, Array.mk.injEq, List.cons.injEq, Value.slice.injEq, Addr.mk.injEq, and_true] at hb0
           obtain ⟨_, ⟨e3, e4⟩, e5, e6⟩ := hb0
           obtain ⟨-, -, -, -, q4⟩ := HR.out.2.cells_of (by omega)
           have q0 := q4 0 (by simp)
           rw [Nat.add_zero, ← e3, ← e4, hcl] at q0
           simp only [List.nil_append, List.map_cons, List.map_nil, List.getElem_cons_zero, KidD.ptr, Option.some.injEq, Value.pointer.injEq, Addr.mk.injEq, and_true] at q0
           subst q0
           rw [← hu]
           exact ⟨FX, hndX.keep hk4 (fun _ _ _ h => h), fun q r h => (hFX q r h).imp (HK.out.2.2.2.2.1 _ HMX.out q r) (fun h => by omega)⟩
end Go.Proofs.Ytananonjomfpkaa

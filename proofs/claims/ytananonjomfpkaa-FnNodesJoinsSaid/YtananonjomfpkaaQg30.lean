/- The contract of the program's greatest: the greatest key below a node. -/
import Derived.Test.YtananonjomfpkaaQg29
import Derived.Test.YtananonjomfpkaaQg27
/- The contract of insert. -/
namespace Go.Proofs.Ytananonjomfpkaa
open Go.RowKit
-- 114
structure Grow (w : World) (gb : Nat) (wide : Int) (s : Nat) (gr : Bool) (F : Cells) (b : Nat) (t : Tr) : Prop where
 box : GBox w gb (.pointer (some ⟨b, 0, none⟩)) wide s (.bool gr)
 node : Nd w F b t
 apart : ∀ o, ¬ F gb o
def Inserted (w : World) (gb : Nat) (wide key : Int) (s : Nat) (gr : Bool) (F : Cells) (t : Tr) (e : Ending) (w' : World) : Prop :=
 ∃ (F' : Cells) (b' : Nat), e = .returned (.tuple #[]) ∧ Grow w' gb wide (if (t.path key).2 then s else s + Tr.insN wide key t) (if (t.path key).2 then gr else (gr || Tr.insG wide key t)) F' b' (if (t.path key).2 then t else Tr.insT wide key t) ∧
   (∀ x o, F' x o → F x o ∨ w.heap.size ≤ x) ∧ KeptF (fun x o => F x o ∨ x = gb) w w'
end Go.Proofs.Ytananonjomfpkaa
/- The contract of grownBy. -/
namespace Go.Proofs.Ytananonjomfpkaa
open Go.RowKit
def Tr.askedB (wide key : Int) (t : Tr) : Bool := Tr.validB wide t && (inB key 0 99 && !(t.pathB key).2)
-- 89
def GrownOf (w : World) (wide key : Int) (t : Tr) (e : Ending) (w' : World) : Prop :=
 (Tr.askedB wide key t = false ∧ e = .returned (.tuple #[.pointer none, .bool false]) ∧ Below w.heap.size w w') ∨
 (Tr.askedB wide key t = true ∧ ∃ (gb b : Nat) (F : Cells), e = .returned (.tuple #[.pointer (some ⟨gb, 0, none⟩), .bool true]) ∧ Grow w' gb wide (Tr.insN wide key t) (Tr.insG wide key t) F b (Tr.insT wide key t) ∧
   (∀ x o, F x o → w.heap.size ≤ x) ∧ Below w.heap.size w w')
end Go.Proofs.Ytananonjomfpkaa
/- The contract of removeBelow at a leaf. -/
namespace Go.Proofs.Ytananonjomfpkaa
open Go.RowKit
set_option maxRecDepth 100000 in
set_option maxHeartbeats 4000000 in
theorem removeLeaf_c (key : Int) (k : List Int) (hN : k.length ≤ 100000) (hsort : k.Pairwise (· < ·)) (hp : place key k < k.length) (w : World) (F : Cells) (b gb : Nat) (gn sh : Value) (bo jo : Nat) (wide : Int)
   (h : Nd w F b (.mk k [])) (hg : SBox w gb gn bo jo sh wide) (hgF : ∀ o, ¬ F gb o) :
   Calls Try.prog 121 #[.pointer (some ⟨gb, 0, none⟩), .pointer (some ⟨b, 0, none⟩), .int .i64 key] w (Repaired w F b gb gn bo jo sh wide (.mk (takeAt k (place key k)) [])) := by
 obtain ⟨kids, Fk, Fc, kv, cv, hk0, hbox, hkr, hcr, hkids, sb, sk, sc, ss, ap, hlt⟩ := h.parts
 have hk1 : kids = [] := by cases kids with | nil => rfl | cons => cases hk0
 clear hk0
 subst hk1
 have hlk := hkr.1
 have hlc := hcr.1
 have hblt := (Array.getElem?_eq_some_iff.1 hbox).1
 have hglt := (Array.getElem?_eq_some_iff.1 hg).1
 have hs := sep_iff.1 ap
 have hgb : gb ≠ b := fun e => hgF 0 (e ▸ sb 0)
 obtain ⟨ka, kc, rfl⟩ := hkr.shown
 obtain ⟨ca, cc, rfl⟩ := hcr.shown
 simp only [List.length_map, List.length_nil] at hbox hkr hcr
 obtain ⟨i, hi⟩ : ∃ i, i = place key k := ⟨_, rfl⟩
 rw [← hi] at hp ⊢
 have hin := rowF_in (k := k) hkr
 obtain ⟨x1, x2, x3, x4⟩ := box2 hbox
 have HBOX := Lib.hid (And.intro hbox hg)
 have HR := Lib.hid (And.intro hkr hcr)
 have HK := Lib.hid (And.intro sb (And.intro sk (And.intro sc hs)))
 have HL := Lib.hid (And.intro hlk (And.intro hlc hlt))
 have HI := Lib.hid hi
 have HP := Lib.hid hp
 have HSORT := Lib.hid hsort
 have HIN := Lib.hid hin
 have HGF := Lib.hid hgF
 clear hlk hlc hlt hkr hcr hkids sb sk sc ss hs ap h hbox hg hi hsort hin hgF hp
 go_enter Try.func121, Try.ntmps121
 go_upto_region 0 with (fail)
 go_cut [6] from 7 to 15 (fun s6 wc => s6 = .int .i64 (i : Int) ∧ KeptF (fun _ _ => False) w wc)
 case first =>
   go_region_with (first
     | (go_at_call 70; refine (less_c key _).mono ?_; rintro e w9 ⟨rfl, rfl⟩)
     | (go_at_call 105; refine (place_less_c _ w.heap.size (HIN.out.later (C := w.heap.size) (((Below.refl w.heap.size w).drew).alloc (Nat.le_refl _) _) (Nat.le_refl _)) HSORT.out (by omega) key key (Lib.hid rfl) _ (box1 (new_blk w.drew _)).1).mono ?_; rintro e w9 ⟨rfl, rfl⟩))
   all_goals (
     go_wp2_with fail
     go_meet
     exact ⟨by rw [HI.out], (KeptF.alloc _ _ _).trans (KeptF.drew _ _)⟩)
 case rest =>
   obtain ⟨rfl, hkc⟩ := hcut
   have hsc := hkc.size
   have hbc := hkc.block' HBOX.out.1 (fun _ h => h)
   have hgc := hkc.block' HBOX.out.2 (fun _ h => h)
   have hkrc : RowF wc Fk (.slice ka k.length kc) (k.map (Value.int .i64)) := HR.out.1.keep hkc (fun _ _ _ h => h)
   have hcrc : RowF wc Fc (.slice ca 0 cc) (([] : List KidD).map KidD.ptr) := HR.out.2.keep hkc (fun _ _ _ h => h)
   clear x1 x2 x3 x4
   obtain ⟨x1, x2, x3, x4⟩ := box2 hbc
   have HKC := Lib.hid (And.intro hkc (And.intro hbc (And.intro hgc (And.intro hkrc hcrc))))
   clear hkc hbc hgc hkrc hcrc
   go_wp2_with fail
   refine (takeInts_c wc Fk _ _ i HKC.out.2.2.2.1 (by simpa using HP.out) (ints_oneCell .i64 k) (by rw [List.length_map]; omega)).mono ?_
   rintro e w2 ⟨v2, rfl, hr2, hk2⟩
   obtain ⟨va2, vc2, rfl⟩ := hr2.shown
   have hb2 := hk2.block' HKC.out.2.1 (fun q h => HK.out.2.2.2.bk b q rfl h)
   clear x1 x2 x3 x4
   obtain ⟨x1, x2, x3, x4⟩ := box2 hb2
   have H2 := Lib.hid (And.intro hr2 (And.intro hk2 hb2))
   clear hr2 hk2 hb2
   go_wp2_with fail
   obtain ⟨hr2, hk2, hb2⟩ := H2.out
   obtain ⟨sb, sk, sc, hs⟩ := HK.out
   obtain ⟨hkc, hbc, hgc, hkrc, hcrc⟩ := HKC.out
   obtain ⟨hlk, hlc, hlt⟩ := HL.out
   have hgF := HGF.out
   have hsz2 := hk2.size
   obtain ⟨W6, hW6⟩ : ∃ W6, W6 = w2.setCell ⟨b, 0, none⟩ (.slice va2 (takeAt (k.map (Value.int .i64)) i).length vc2) := ⟨_, rfl⟩
   rw [← hW6]
   have hk6 : KeptF (boxOf b) w2 W6 := by rw [hW6]; exact KeptF.setCell _ _ _ _ rfl
   have hb6 : W6.heap[b]? = some (.cells #[.slice va2 (takeAt (k.map (Value.int .i64)) i).length vc2, .slice ca 0 cc] 99 (0, 0)) := by rw [hW6]; exact set_blk (o := 0) _ hb2
   have hrk : RowF W6 Fk (.slice va2 (takeAt (k.map (Value.int .i64)) i).length vc2) ((takeAt k i).map (Value.int .i64)) := by
     rw [takeAt_map]
     exact hr2.keep hk6 (fun q r h g => hs.bk _ _ g h)
   have hrc : RowF W6 Fc (.slice ca 0 cc) (([] : List KidD).map KidD.ptr) := (hcrc.keep hk2 (fun q r h g => hs.kc _ _ g h)).keep hk6 (fun q r h g => hs.bc _ _ g h)
   have hnd := Nd.intro hb6 hrk hrc (fun y hy => by simp at hy) hs
   refine bodyPost_ret (v := .tuple #[]) (by simp [results, Try.results121, go_sem]) rfl ?_
   refine ⟨_, rfl, hnd, ?_, ?_, ?_⟩
   · rintro q r (h | h | h | ⟨y, hy, h⟩)
     · subst h; exact .inl (sb r)
     · exact .inl (sk q r h)
     · exact .inl (sc q r h)
     · simp at hy
   · have a1 := hkc.mono (G := fun q r => F q r ∨ q = gb) (fun _ _ _ h => h.elim)
     have a2 := a1.trans (hk2.mono (fun q r _ h => .inl (.inl (sk q r h))))
     exact a2.trans (hk6.mono (fun q r _ h => .inl (.inl (by have h' : q = b := h; subst h'; exact sb r))))
   · exact hk6.block' (hk2.block' hgc (fun q h => hgF q (sk _ _ h))) (fun q h => hgb h)
end Go.Proofs.Ytananonjomfpkaa
/- The contract of the program's greatest: the greatest key below a node. -/
namespace Go.Proofs.Ytananonjomfpkaa
open Go.RowKit
set_option maxRecDepth 100000 in
set_option maxHeartbeats 4000000 in
theorem greatest_c {w : World} {lo hi b : Nat} {t : Tr} (ht : NodeAt w lo hi b t) (hf : Tr.Full t) (hw : t.weight ≤ 1048576) (hhi : hi ≤ w.heap.size) :
   Calls Try.prog 141 #[.pointer (some ⟨b, 0, none⟩)] w fun e w'' => e = .returned (.int .i64 t.greatest) ∧ Below w.heap.size w w'' := by
 have HT := Lib.hid ht
 have HF := Lib.hid hf
 clear ht hf
 go_enter Try.func141, Try.ntmps141
 go_wp2_with fail
 go_loopg [0] t.weight (fun k s0 wr => ∃ (tr : Tr) (b' : Nat), s0 = .pointer (some ⟨b', 0, none⟩) ∧ NodeAt w lo hi b' tr ∧ Tr.Full tr ∧
   tr.weight ≤ k ∧ tr.greatest = t.greatest ∧ Below w.heap.size w wr ∧ tr.weight ≤ 1048576)
 case atStart => exact ⟨t, b, rfl, HT.out, HF.out, Nat.le_refl _, rfl, Below.refl _ _, hw⟩
 case round =>
   obtain ⟨tr, b', rfl, htr, hfl, hk, hgr, hbel, hwt⟩ := hrel
   cases tr with
   | mk ks cs =>
   have htr' : NodeAt wr lo hi b' (.mk ks cs) := htr.same (fun k _ h => hbel.block k (by omega))
   obtain ⟨kv, a, cap, ps, hlo, hhb, hbox, hki, hlen, hcap, hat, hkids⟩ := htr'.parts
   have hkids0 : ∀ i (h : i < cs.length), NodeAt w lo hi (ps i) cs[i] := fun i h => (hkids i h).same (fun k _ h => (hbel.block k (by omega)).symm)
   obtain ⟨ka, kcap, rfl, k1, k2, k3, k4⟩ := hki
   have hkn := hfl.keys
   unfold maxLen at k2 hcap
   have hl0 := Tr.length_le_weights cs
   have hwt' := hwt
   simp only [Tr.weight] at hwt'
   cases hcl : cs.length with
   | zero =>
     obtain ⟨m, hm⟩ : ∃ m, ks.length = m + 1 := ⟨ks.length - 1, by omega⟩
     have hg := Tr.greatest_leaf (k := ks) hcl
     rw [hm, Nat.add_sub_cancel] at hg
     rcases k4 with h | ⟨kb, off, rfl, hb1, hb2, hat4⟩
     · exact absurd (by rw [h]; rfl) hkn
     have ha' : wr.cell? ⟨kb, off + m, none⟩ = some (.int .i64 (ks.getD m 0)) := hat4 m (by omega)
     rw [← hg, hgr] at ha'
     rw [hm, hcl] at hbox
     rw [hm] at k1
     have HBEL := Lib.hid hbel
     obtain ⟨x1, x2, x3, x4⟩ := box2 hbox
     clear hat4 hg hat hkids htr hfl hk hbel hgr hbox hm hkn hwt hwt' hl0 hcl htr' hkids0
     go_wp2_with fail
     go_quiet (fail)
     go_wp2_with fail
     go_ret
     exact ⟨rfl, below_drewN HBEL.out _⟩
   | succ m =>
     have hic : m < cs.length := by omega
     have hgi := Tr.greatest_inner (k := ks) (cs := cs) (by omega)
     rcases hat with h | ⟨qb, qo, rfl, q1, q2, q3⟩
     · omega
     have z1 := q3 m hic
     have hgm : cs[m].greatest = t.greatest := by
       rw [← hgr, hgi]; congr 1; simp [hcl]
     rw [hcl] at hbox hlen
     obtain ⟨x1, x2, x3, x4⟩ := box2 hbox
     have HR := Lib.hid (And.intro (hkids0 m hic) (And.intro (hfl.tops.kid m hic) (And.intro hk (And.intro hgm hbel))))
     have HCL := Lib.hid hcl
     clear q3 hbox hkids hkids0 hfl hk hbel hgm hgi hgr htr htr' k4 hcl
     go_wp2_with fail
     go_quiet (fail)
     go_wp2_with fail
     go_roundg cs[m].weight
     case measure => have h := HR.out.2.2.1; simp only [Tr.weight] at h; have := Tr.weight_get_le cs m hic; omega
     case rel =>
       exact ⟨cs[m], ps m, rfl, HR.out.1, HR.out.2.1, Nat.le_refl _, HR.out.2.2.2.1, below_drewN HR.out.2.2.2.2 _, by have := Tr.weight_get_le cs m hic; omega⟩
end Go.Proofs.Ytananonjomfpkaa

/- The law on paths: the walk over the contracts. -/
import Derived.Test.YtjnkdbgebkajoaaProg
import Derived.Test.YtjnkdbgebkajoaaSh0
import Derived.Test.YtjnkdbgebkajoaaSh2
import Derived.Test.YtjnkdbgebkajoaaSh3
import Derived.Test.YtjnkdbgebkajoaaSh8
import Derived.Test.YtjnkdbgebkajoaaDepthA
import Derived.Test.YtjnkdbgebkajoaaSh15
import Derived.Test.YtjnkdbgebkajoaaSh16
import Derived.Test.YtjnkdbgebkajoaaPathSpec
import Derived.Test.YtjnkdbgebkajoaaImRank
import Derived.Test.YtjnkdbgebkajoaaSh18
import Derived.Test.YtjnkdbgebkajoaaSh33
import Derived.Test.YtjnkdbgebkajoaaSh21
import Derived.Deep.RegionHeld3
namespace Go.Proofs.Ytjnkdbgebkajoaa
open Go.RowKit

set_option maxHeartbeats 2000000 in
set_option maxRecDepth 100000 in
theorem fnPath_c {w : World} {v : Value} {bs : List Nat} (h : BytesIn w w.heap.size v bs) :
    Calls Try.prog 7 #[v] w fun e w' => e = .returned (.bool true) ∧ Below w.heap.size w w' := by
  have H := Lib.hid h
  obtain ⟨a1, c1, rfl, -⟩ := h
  by_cases hc1 : bs.length ≤ 1048576
  case neg =>
    have hc1' : ((bs.length : Int) > 1048576) := by omega
    go_enter Try.func7, Try.ntmps7
    go_wp2_with fail
    go_ret
    exact ⟨rfl, Below.refl _ _⟩
  have hc1' : ¬ ((bs.length : Int) > 1048576) := by omega
  have HD := Lib.hid (DrawPathOf_c H.out w (Below.refl _ _) (Nat.le_refl _))
  go_enter Try.func7, Try.ntmps7
  go_wp2_with fail
  refine HD.out.mono ?_
  rintro e w2 ⟨k2, d2, t, key, rfl, ht2, hw2, hkey, hb2⟩
  obtain ⟨b1, b2, b3, b4, b5, b6, rfl, rfl⟩ := ht2.slices
  have hs2 := hb2.size
  obtain ⟨W3, hW3⟩ : ∃ W3, W3 = w2.alloc (.cells #[.slice b1 b2 b3, .slice b4 b5 b6] 26) := ⟨_, rfl⟩
  have hs3 : w2.heap.size < W3.heap.size := by rw [hW3]; simp
  have hb3 : Below w2.heap.size w2 W3 := by rw [hW3]; exact (Below.refl _ _).alloc (Nat.le_refl _) _
  have hx3 : W3.heap[w2.heap.size]? = some (.cells #[.slice b1 b2 b3, .slice b4 b5 b6] 26 (0, 0)) := by rw [hW3, new_blk]
  have hta3 : TreeA W3 (.slice b1 b2 b3) (.slice b4 b5 b6) t := (ht2.a (fun k hk => hk.2)).later hb3 (Nat.le_refl _)
  have hwt : t.weight ≤ 1048576 := by omega
  have hpl := pathB_len key t
  obtain ⟨p, hp⟩ : ∃ p, p = (t.pathB key).1 := ⟨_, rfl⟩
  obtain ⟨ok, hok⟩ : ∃ ok, ok = (t.pathB key).2 := ⟨_, rfl⟩
  obtain ⟨rk, hrk⟩ : ∃ rk, rk = t.rankB key := ⟨_, rfl⟩
  obtain ⟨vs, hvs⟩ : ∃ vs, vs = t.visitsB key := ⟨_, rfl⟩
  have C1 := fun (wx : World) (hx : Below W3.heap.size W3 wx) => impl_path hta3.tree hwt key wx hx hx.size
  have C2 := fun (wx : World) (hx : Below W3.heap.size W3 wx) => specPathOf_c hta3.tree hwt key wx hx hx.size
  have C3 := fun (wx : World) (hx : Below W3.heap.size W3 wx) => impl_visits hta3.tree hwt key wx hx hx.size
  have C4 := fun (wx : World) (hx : Below W3.heap.size W3 wx) => specVisitsOf_c hta3.tree hwt key wx hx hx.size
  have C5 := fun (wx : World) (hx : Below W3.heap.size W3 wx) => impl_has hta3.tree hwt key wx hx hx.size
  have C6 := fun (wx : World) (hx : Below W3.heap.size W3 wx) => impl_rank hta3.tree hwt key wx hx hx.size
  have C7 := fun (wx : World) (hx : Below W3.heap.size W3 wx) => impl_keys_a (hta3.later hx (Nat.le_refl _)) hwt
  have C8 := fun (wx : World) (hx : Below W3.heap.size W3 wx) => impl_depth_a (hta3.later hx (Nat.le_refl _)) hwt
  rw [← hp] at C1 C2 hpl
  rw [← hok] at C1 C2 C5
  rw [← hrk] at C6
  rw [← hvs] at C3 C4
  have HP := Lib.hid (And.intro hp (And.intro hok (And.intro hrk hvs)))
  have HC1 := Lib.hid C1
  have HC2 := Lib.hid C2
  have HC3 := Lib.hid C3
  have HC4 := Lib.hid C4
  have HC5 := Lib.hid C5
  have HC6 := Lib.hid C6
  have HC7 := Lib.hid C7
  have HC8 := Lib.hid C8
  have HTA := Lib.hid hta3
  have BOX : Hid (∀ wx : World, Below W3.heap.size W3 wx → wx.heap[w2.heap.size]? = some (.cells #[.slice b1 b2 b3, .slice b4 b5 b6] 26 (0, 0))) := Lib.hid (fun wx hx => (hx.block _ (by omega)).trans hx3)
  have HF := Lib.hid (hb2.trans (hb3.mono (by omega)))
  have hx3x := hx3
  rw [hW3] at hx3x
  obtain ⟨x1, x2, x3, x4⟩ := box2 hx3x
  have HW3 := Lib.hid hW3
  have hnev : (vs != vs) = false := by simp
  have hneo : (ok != ok) = false := by simp
  clear ht2 hb2 hW3 hb3 hx3 hx3x hta3 hkey C1 C2 C3 C4 C5 C6 C7 C8 hp hok hrk hvs
  go_wp2_with fail
  rw [← HW3.out]
  refine (HC1.out W3 (Below.refl _ _)).mono ?_
  rintro e w4 ⟨p4, rfl, ho4, hb4⟩
  obtain ⟨pa, pc, rfl⟩ := IntsOwn.shown ho4
  have hz4 := hb4.size
  have HO4 := Lib.hid ho4
  have HB4 := Lib.hid hb4
  clear ho4 hb4 x1 x2 x3 x4
  obtain ⟨x1, x2, x3, x4⟩ := box2 (BOX.out w4 HB4.out)
  go_wp2_with fail
  refine (HC2.out w4 HB4.out).mono ?_
  rintro e w5 ⟨p5, rfl, ho5, hb5⟩
  obtain ⟨qa, qc, rfl⟩ := IntsOwn.shown ho5
  have hz5 := hb5.size
  have HO5 := Lib.hid (And.intro (IntsOwn.later HO4.out hb5 (Nat.le_refl _)) ho5)
  have HB5 := Lib.hid (HB4.out.trans (hb5.mono hz4))
  clear ho5 hb5 x1 x2 x3 x4
  obtain ⟨x1, x2, x3, x4⟩ := box2 (BOX.out w5 HB5.out)
  go_upto_region 6 with (fail)
  go_region_held3 (fun x => x.cell? ⟨w2.heap.size, 0, none⟩ = some (.slice b1 b2 b3) ∧ x.cell? ⟨w2.heap.size, 1, none⟩ = some (.slice b4 b5 b6))
    (first | exact ⟨x1, x2⟩ | exact ⟨z1, z2⟩ | exact ⟨q1, q2⟩ | exact ⟨r1, r2⟩ | exact ⟨l1, l2⟩ | go_keep)
    (first
      | (go_at_call 26; refine (ftSame_c p _ _ w5.drew w5.drew.heap.size (Nat.le_refl _) (IntsOwn.inB (show IntsOwn w5.drew W3.heap.size _ p from HO5.out.1) (Nat.le_refl _)) (IntsOwn.inB (show IntsOwn w5.drew w4.heap.size _ p from HO5.out.2) (Nat.le_refl _))).mono ?_; rintro e w6 ⟨rfl, hb6⟩; have hB6 : Below W3.heap.size W3 w6 := HB5.out.drew.trans (hb6.mono (by have := HB5.out.size; simp; omega)); obtain ⟨z1, z2, -⟩ := box2 (BOX.out w6 hB6); have HB6 := Lib.hid hB6; have HA6 : Hid (Below w5.heap.size w5 w6) := Lib.hid ((Below.refl _ _).drew.trans (hb6.mono (by simp))); clear hb6 hB6)
      | (go_at_call 41; refine (HC3.out _ HB6.out).mono ?_; rintro e w7 ⟨rfl, hb7⟩; have hB7 : Below W3.heap.size W3 w7 := HB6.out.trans (hb7.mono (by have := HB6.out.size; omega)); obtain ⟨q1, q2, -⟩ := box2 (BOX.out w7 hB7); have HB7 := Lib.hid hB7; have HA7 : Hid (Below w5.heap.size w5 w7) := Lib.hid (HA6.out.trans (hb7.mono (by have := HA6.out.size; omega))); clear hb7 hB7)
      | (go_at_call 42; refine (HC4.out _ HB7.out).mono ?_; rintro e w8 ⟨rfl, hb8⟩; have hB8 : Below W3.heap.size W3 w8 := HB7.out.trans (hb8.mono (by have := HB7.out.size; omega)); obtain ⟨r1, r2, -⟩ := box2 (BOX.out w8 hB8); have HB8 := Lib.hid hB8; have HA8 : Hid (Below w5.heap.size w5 w8) := Lib.hid (HA7.out.trans (hb8.mono (by have := HA7.out.size; omega))); clear hb8 hB8)
      | (go_at_call 31; refine (HC5.out _ HB8.out).mono ?_; rintro e w9 ⟨rfl, hb9⟩; have hB9 : Below W3.heap.size W3 w9 := HB8.out.trans (hb9.mono (by have := HB8.out.size; omega)); obtain ⟨l1, l2, -⟩ := box2 (BOX.out w9 hB9); have HB9 := Lib.hid hB9; have HA9 : Hid (Below w5.heap.size w5 w9) := Lib.hid (HA8.out.trans (hb9.mono (by have := HA8.out.size; omega))); clear hb9 hB9))
  clear x1 x2 x3 x4 z1 z2 q1 q2 r1 r2 l1 l2
  obtain ⟨x1, x2, x3, x4⟩ := box2 (BOX.out w9 HB9.out)
  have hz9 := HB9.out.size
  clear hnev hneo
  go_wp2_with fail
  refine (HC6.out w9 HB9.out).mono ?_
  rintro e w10 ⟨rfl, hb10⟩
  have HB10 := Lib.hid (HB9.out.trans (hb10.mono hz9))
  have HA10 := Lib.hid (HA9.out.trans (hb10.mono (by have := HA9.out.size; omega)))
  have hz10 := HB10.out.size
  clear hb10 x1 x2 x3 x4
  obtain ⟨x1, x2, x3, x4⟩ := box2 (BOX.out w10 HB10.out)
  by_cases hneg : rk < 0
  · have hs : t.someB = false := by
      cases hs : t.someB with
      | false => rfl
      | true =>
        have h1 := (rankB_is key t).1 hs
        rw [← HP.out.2.2.1] at h1
        omega
    have hpn : p = [] := by rw [HP.out.1, (someB_path key t).2 hs]
    have hokn : ok = false := by rw [HP.out.2.1, (someB_path key t).2 hs]
    have hvsn : vs = -1 := by rw [HP.out.2.2.2, (visitsB_is key t).2 hs]
    clear hs HO4 HO5 HC1 HC2
    subst hpn hokn hvsn
    go_wp2_with fail
    refine (HC3.out w10 HB10.out).mono ?_
    rintro e w11 ⟨rfl, hb11⟩
    have HB11 := Lib.hid (HB10.out.trans (hb11.mono hz10))
    clear hb11 x1 x2 x3 x4
    go_wp2_with fail
    go_ret
    exact ⟨rfl, HF.out.trans (HB11.out.mono (by have := HF.out.size; omega))⟩
  have hsome := Tr.rank_some (t := t) (key := key) (by rw [← HP.out.2.2.1]; omega)
  have hwell := Tr.Well.of_some hsome
  have hpb := (someB_path key t).1 hsome
  have hpt : t.path key = (p, ok) := by rw [← hpb, HP.out.1, HP.out.2.1]
  have hvl : vs = (p.length : Int) + 1 := by rw [HP.out.2.2.2, (visitsB_is key t).1 hsome, HP.out.1]
  have hdp := Tr.path_deep key t hwell
  rw [hpt] at hdp
  have hmem := Tr.path_iff key t hwell
  rw [hpt] at hmem
  dsimp only at hmem hdp
  have HPATH := Lib.hid (And.intro hpt (And.intro hwell (And.intro hmem hdp)))
  clear hsome hwell hpb hpt hdp hmem
  obtain ⟨W11, hW11⟩ : ∃ W11, W11 = w10.alloc (.cells #[.slice b1 b2 b3, .slice b4 b5 b6] 26) := ⟨_, rfl⟩
  have hs11 : W11.heap.size = w10.heap.size + 1 := by rw [hW11]; simp
  have hb11 : Below w10.heap.size w10 W11 := by rw [hW11]; exact (Below.refl _ _).alloc (Nat.le_refl _) _
  have hk11 : W11.heap[w10.heap.size]? = some (.cells #[.slice b1 b2 b3, .slice b4 b5 b6] 26 (0, 0)) := by rw [hW11, new_blk]
  have hpo : IntsIn w10 w10.heap.size (.slice pa p.length pc) p := by
    have hb : Below w5.heap.size w5 w10 := HA10.out
    exact (IntsOwn.inB (IntsOwn.later HO5.out.1 hb (Nat.le_refl _)) (Nat.le_refl _))
  have HW11 := Lib.hid hW11
  have H11 := Lib.hid (And.intro hb11 hk11)
  have HPO := Lib.hid hpo
  clear hW11 hb11 hk11 hpo
  go_wp2_with fail
  rw [← HW11.out]
  clear x1 x2 x3 x4
  go_loopw [12, 79] (fun s12 i wr => ∃ (j : Nat) (tr : Tr) (kvr cvr : Value), j ≤ p.length ∧ i = .int .i64 j ∧ wr.heap[w10.heap.size]? = some (.cells #[kvr, cvr] 26 (0, 0)) ∧ TreeIn W3 W3.heap.size kvr cvr tr ∧ Tr.Well tr ∧ tr.weight ≤ 1048576 ∧
    tr.path key = (p.drop j, ok) ∧ Below w10.heap.size w10 wr ∧ W11.heap.size ≤ wr.heap.size) (fun _ i _ => p.length - (intOf i).toNat)
  case atStart => exact ⟨0, t, _, _, Nat.zero_le _, rfl, H11.out.2, HTA.out.tree, HPATH.out.2.1, hwt, HPATH.out.1, H11.out.1, Nat.le_refl _⟩
  case round =>
    obtain ⟨j, tr, kvr, cvr, hj, rfl, hbox, htr, hwl, htw, hpt, hbel, hszr⟩ := hrel
    cases tr with
    | mk ks cs =>
    obtain ⟨a, cap, kvs, cvs, rfl, hki, hlen, hcap, hat, hkids⟩ := htr.parts
    obtain ⟨ka, kcap, rfl, -⟩ := id hki
    have hsr := hbel.size
    have hBr : Below W3.heap.size W3 wr := HB10.out.trans (hbel.mono hz10)
    by_cases hjl : j < p.length
    · rw [List.drop_eq_getElem_cons hjl] at hpt
      obtain ⟨i, hic, hpj, hnk, hpt2, hwl2⟩ := Tr.walk_step hwl hpt
      obtain ⟨_, _, hv, _, _, _, hin⟩ := HPO.out
      injection hv with e1 _ e3
      subst e1 e3
      rcases hin with h | ⟨pb, po, rfl, hb, hat4⟩
      · rw [h] at hjl; simp at hjl
      have ha' : wr.cell? ⟨pb, po + j, none⟩ = some (.int .i64 (p.getD j 0)) := by rw [below_cell hbel hb]; exact hat4 j hjl
      rw [List.getD_eq_getElem?_getD, List.getElem?_eq_getElem hjl, Option.getD_some, hpj] at ha'
      obtain ⟨ka5, kn5, kc5, ca5, cn5, cc5, hkv5, hcv5⟩ := (hkids i hic).slices
      rcases hat with h | ⟨kb5, ko5, rfl, hkb5, hkat5⟩
      · omega
      have hka := (hkat5 i hic).1
      have hkc := (hkat5 i hic).2
      rw [hkv5] at hka
      rw [hcv5] at hkc
      have z1 := (below_cell hBr hkb5).trans hka
      have z2 := (below_cell hBr hkb5).trans hkc
      have hic' : (i : Int) < (cs.length : Int) := by omega
      have hic2 : ¬ (i : Int) ≥ (cs.length : Int) := by omega
      have hi0 : ¬ (i : Int) < 0 := by omega
      have hjl' : (j : Int) < (p.length : Int) := by omega
      have hwk := Tr.weight_get_le cs i hic
      simp only [Tr.weight] at htw
      have HFT := Lib.hid (ftHas_c ks key _ wr W3.heap.size (by have := hBr.size; omega) (IntsIn.later hki hBr (Nat.le_refl _)))
      have hdn : decide (key ∈ ks) = false := by simp [hnk]
      rw [hdn] at HFT
      have HR := Lib.hid (And.intro hbox (And.intro (And.intro hkv5 hcv5) (And.intro (hkids i hic) (And.intro hwl2 (And.intro hpt2 (And.intro hbel hBr))))))
      have HZ := Lib.hid (And.intro z1 z2)
      obtain ⟨x1, x2, x3, x4⟩ := box2 hbox
      clear hat4 hka hkc hkat5 hkv5 hcv5 hbox hkids hwl hwl2 hbel hpt hpt2 hpj htr hki hBr hb hnk hdn z1 z2
      unfold maxLen at hcap
      go_wp2_with fail
      refine HFT.out.mono ?_
      rintro e w12 ⟨rfl, hb12⟩
      have hz12 := hb12.size
      have H12 := Lib.hid (And.intro (HR.out.2.2.2.2.2.1.trans (hb12.mono hsr)) (And.intro hb12 ((hb12.block _ (by omega)).trans HR.out.1)))
      have z1 := (below_cell hb12 (by omega)).trans HZ.out.1
      have z2 := (below_cell hb12 (by omega)).trans HZ.out.2
      clear hb12 x1 x2 x3 x4
      obtain ⟨x1, x2, x3, x4⟩ := box2 H12.out.2.2
      go_wp2_with fail
      go_roundw
      case measure => simp [intOf]; omega
      case rel =>
        refine ⟨j + 1, cs[i], _, _, by omega, by go_num, set_blk _ (set_blk _ H12.out.2.2), ?_, HR.out.2.2.2.1, by omega, HR.out.2.2.2.2.1, ?_, by simp; omega⟩
        · rw [← HR.out.2.1.1, ← HR.out.2.1.2]; exact HR.out.2.2.1
        · exact (H12.out.1.setCell (Nat.le_refl _) _).setCell (Nat.le_refl _) _
    · have hje : j = p.length := by omega
      rw [hje, List.drop_length] at hpt
      have hfd := Tr.walk_end hwl hpt
      have hjl' : ¬ (j : Int) < (p.length : Int) := by omega
      have hm1 := hfd.1
      have HFT := Lib.hid (ftHas_c ks key _ wr W3.heap.size (by have := hBr.size; omega) (IntsIn.later hki hBr (Nat.le_refl _)))
      rw [← hm1] at HFT
      have HBR := Lib.hid (And.intro hBr (And.intro hbox hfd.2))
      obtain ⟨x1, x2, x3, x4⟩ := box2 hbox
      clear hm1 hfd hat hkids hwl hpt htr hki hBr hbox hbel hje hjl
      have hoo : (ok == ok) = true := by simp
      go_wp2_with fail
      refine HFT.out.mono ?_
      rintro e w12 ⟨rfl, hb12⟩
      have hz12 := hb12.size
      have H12 := Lib.hid (And.intro (HBR.out.1.trans (hb12.mono (by have := HBR.out.1.size; omega))) ((hb12.block _ (by omega)).trans HBR.out.2.1))
      clear hb12 x1 x2 x3 x4
      obtain ⟨x1, x2, x3, x4⟩ := box2 H12.out.2
      obtain ⟨y1, y2, y3, y4⟩ := box2 (BOX.out w12 H12.out.1)
      go_wp2_with fail
      refine (HC7.out w12 H12.out.1).mono ?_
      rintro e w13 ⟨v13, rfl, ho13, hb13⟩
      obtain ⟨va13, vc13, rfl⟩ := IntsOwn.shown ho13
      have hz13 := hb13.size
      have hdk : decide (key ∈ t.keys) = ok := by
        rw [Bool.eq_iff_iff, decide_eq_true_eq]
        exact HPATH.out.2.2.1.symm
      have HFK := Lib.hid (ftHas_c t.keys key _ w13 w13.heap.size (Nat.le_refl _) (IntsOwn.inB ho13 (Nat.le_refl _)))
      rw [hdk] at HFK
      have H13 := Lib.hid (And.intro (H12.out.1.trans (hb13.mono (by have := H12.out.1.size; omega))) ((hb13.block _ (by omega)).trans H12.out.2))
      clear hb13 ho13 hdk x1 x2 x3 x4 y1 y2 y3 y4
      go_wp2_with fail
      refine HFK.out.mono ?_
      rintro e w14 ⟨rfl, hb14⟩
      have hz14 := hb14.size
      have H14 := Lib.hid (And.intro (H13.out.1.trans (hb14.mono (by have := H13.out.1.size; omega))) ((hb14.block _ (by omega)).trans H13.out.2))
      clear hb14
      obtain ⟨y1, y2, y3, y4⟩ := box2 (BOX.out w14 H14.out.1)
      go_wp2_with fail
      refine (HC3.out w14 H14.out.1).mono ?_
      rintro e w15 ⟨rfl, hb15⟩
      have hz15 := hb15.size
      have H15 := Lib.hid (And.intro (H14.out.1.trans (hb15.mono (by have := H14.out.1.size; omega))) ((hb15.block _ (by omega)).trans H14.out.2))
      clear hb15 y1 y2 y3 y4
      obtain ⟨y1, y2, y3, y4⟩ := box2 (BOX.out w15 H15.out.1)
      have hwr : IntKind.i64.wrap ((p.length : Int) + 1) = (p.length : Int) + 1 := by rw [IntKind.wrap_i64]; omega
      have hdd := HPATH.out.2.2.2
      have hct := Tr.count_le t
      have hdl := Tr.depth_le t
      subst hvl
      have hve : (((p.length : Int) + 1) == ((p.length : Int) + 1)) = true := by simp
      go_wp2_with fail
      refine (HC8.out w15 H15.out.1).mono ?_
      rintro e w16 ⟨rfl, hb16⟩
      have hz16 := hb16.size
      have H16 := Lib.hid (And.intro (H15.out.1.trans (hb16.mono (by have := H15.out.1.size; omega))) ((hb16.block _ (by omega)).trans H15.out.2))
      clear hb16 y1 y2 y3 y4
      obtain ⟨x1, x2, x3, x4⟩ := box2 H16.out.2
      have hdd' : (p.length : Int) < (t.depth : Int) := by omega
      have HFIN := Lib.hid (HF.out.trans (H16.out.1.mono (by have := HF.out.size; omega)))
      clear hdd hct hdl
      cases ok with
      | true =>
        go_wp2_with fail
        go_ret
        exact ⟨rfl, HFIN.out⟩
      | false =>
        have hcl := HBR.out.2.2 rfl
        have hcl' : ((cs.length : Int) == 0) = true := by simp [hcl]
        go_wp2_with fail
        go_ret
        first
          | exact ⟨rfl, HFIN.out⟩
          | exact ⟨ret_bool (by simp [*]), HFIN.out⟩
end Go.Proofs.Ytjnkdbgebkajoaa

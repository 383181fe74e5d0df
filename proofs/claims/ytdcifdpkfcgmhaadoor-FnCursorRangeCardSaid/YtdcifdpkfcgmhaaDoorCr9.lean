/- What one comes by on the way through a tree: plain data. -/
import Derived.Test.YtdcifdpkfcgmhaaDoorProg
import Derived.Test.YtdcifdpkfcgmhaaDoorCr0
import Derived.Test.YtdcifdpkfcgmhaaDoorCr1
import Derived.Test.YtdcifdpkfcgmhaaDoorCr8
import Derived.Deep.LoopGhost
import Derived.Deep.QuietTactic
import Derived.BigQuiet
import Derived.StillTailTactics
import Derived.WalkSmall

/- The contract of hasEnd: it answers true at every tree that ends. -/
namespace Go.Proofs.YtdcifdpkfcgmhaaDoor
open Go.RowKit

namespace ATr
mutual
/-- How many rounds a tree takes. -/
def work : ATr → Nat
  | .mk _ _ _ c => 1 + works c
def works : List ATr → Nat
  | [] => 0
  | a :: r => 1 + work a + works r
end
theorem works_drop (c : List ATr) (p : Nat) (h : p < c.length) : works (c.drop p) = 1 + c[p].work + works (c.drop (p + 1)) := by
  rw [List.drop_eq_getElem_cons h]; rfl
end ATr
def todo1 (f : ATr × Nat) : Nat := 1 + ATr.works (f.1.cs.drop f.2)
def todo : List (ATr × Nat) → Nat
  | [] => 0
  | f :: r => todo1 f + todo r
theorem todo_append (a b : List (ATr × Nat)) : todo (a ++ b) = todo a + todo b := by
  induction a with
  | nil => simp [todo]
  | cons f r ih => simp [todo, ih]; omega

/-- Each one on the way lies in the one ahead of it. -/
abbrev Down (fr : List (ATr × Nat)) : Prop := fr.Pairwise (fun f g => g.1.weight < f.1.weight)
theorem down_len {fr : List (ATr × Nat)} (h : Down fr) {N : Nat} (hN : ∀ f ∈ fr, f.1.weight ≤ N) : fr.length ≤ N + 1 := by
  induction fr generalizing N with
  | nil => simp
  | cons f r ih =>
    obtain ⟨h1, h2⟩ := List.pairwise_cons.1 h
    cases r with
    | nil => simp
    | cons g r' =>
      have hg := h1 g (by simp)
      have hf := hN f (by simp)
      have := ih h2 (N := N - 1) (fun x hx => by have := h1 x hx; omega)
      simp at this ⊢; omega

set_option maxRecDepth 100000 in
set_option maxHeartbeats 2000000 in
theorem hasEnd_c {w : World} {a : ATr} (ha : AT w a) (hwt : a.weight ≤ 1048576) :
    Calls Tryd.prog 108 #[.pointer (some a.addr)] w fun e w' => e = .returned (.bool true) ∧ Below w.heap.size w w' := by
  obtain ⟨i0, hi0, hz0, hz1, hz2⟩ := info_parts Tryd.infoSpot
  obtain ⟨it, hit, htz, ht1, ht2⟩ := info_parts Tryd.infoTreePtr
  obtain ⟨ib, hib, hbz, hb1, hb2⟩ := info_parts Tryd.infoBool
  have hsz : it.size ≠ 0 := by rw [ht1]; decide
  have hmm := @run_makeMap Tryd.prog
  go_enter Tryd.func108, Tryd.ntmps108
  go_wp2_with fail
  obtain ⟨W2, hW2⟩ : ∃ W2, W2 = (w.alloc (.map #[] 0)).alloc (.cells #[.pointer (some a.addr), .int .i64 0] 131) := ⟨_, rfl⟩
  rw [← hW2]
  have hs2 : W2.heap.size = w.heap.size + 2 := by rw [hW2]; simp
  have hb2 : Below w.heap.size w W2 := by rw [hW2]; exact ((Below.refl _ _).alloc (Nat.le_refl _) _).alloc (by simp) _
  have hm2 : BMap W2 w.heap.size w.heap.size (fun ad => ∃ f ∈ [(a, 0)], ad = f.1.addr) := by
    rw [hW2]
    exact (bmap_new w _ _).kept (old_blk _ _ _ (by simp)) (fun x _ hx => hx.kept (fun k h _ => old_blk _ _ _ h))
  have hway : Way W2 (w.heap.size + 1) (w.heap.size + 1) 1 [(a, 0)] := by
    refine Way.of (cur := #[.pointer (some a.addr), .int .i64 0]) (Nat.le_refl _) ?_ (by simp) (by unfold maxLen; omega) rfl rfl
    have h := new_blk (w.alloc (.map #[] 0)) (.cells #[.pointer (some a.addr), .int .i64 0] 131)
    rw [World.size_alloc] at h
    rw [hW2]; exact h
  have H2 := Lib.hid (And.intro hb2 (And.intro hm2 hway))
  clear hW2 hb2 hm2 hway hmm
  have HA := Lib.hid ha
  clear ha
  go_loopg [4] (todo [(a, 0)]) (fun k s4 wr => ∃ (fr : List (ATr × Nat)) (g cap : Nat), s4 = .slice (some ⟨g, 0, none⟩) fr.length cap ∧ Way wr (w.heap.size + 1) g cap fr ∧ (∀ f ∈ fr, AT w f.1 ∧ f.2 ≤ f.1.cs.length ∧ f.1.weight ≤ 1048576) ∧ Down fr ∧
    BMap wr w.heap.size w.heap.size (fun ad => ∃ f ∈ fr, ad = f.1.addr) ∧ Below w.heap.size w wr ∧ todo fr ≤ k)
  case atStart =>
    exact ⟨[(a, 0)], _, _, rfl, H2.out.2.2, fun f hf => by obtain rfl := List.mem_singleton.1 hf; exact ⟨HA.out, Nat.zero_le _, hwt⟩, List.pairwise_singleton _ _, H2.out.2.1, H2.out.1, Nat.le_refl _⟩
  case round =>
    obtain ⟨fr, g, cap, rfl, hway, hfr, hdown, hmap, hbel, hk⟩ := hrel
    rcases List.eq_nil_or_concat fr with rfl | ⟨ini, f, rfl⟩
    · have HBEL := Lib.hid hbel
      clear hway hfr hdown hmap hbel
      go_wp2_with fail
      go_ret
      exact ⟨rfl, HBEL.out⟩
    · obtain ⟨a1, p⟩ := f
      simp only [List.concat_eq_append] at hway hfr hdown hmap hk ⊢
      have hlen := down_len hdown (N := 1048576) (fun f hf => (hfr f hf).2.2)
      obtain ⟨hat, hp, hw1⟩ := hfr (a1, p) (by simp)
      obtain ⟨kaA, haA, kcA, hcA, g0, goA, h0, hoA, q1, q2, q3, q4, q5, q6, q7, q8⟩ := hat.parts
      have c2 : wr.cell? ⟨a1.nb, a1.no, none⟩ = some _ := (below_cell hbel (World.block_lt_of_cell? w _ q2)).trans q2
      have c3 : wr.cell? ⟨a1.nb, a1.no + 1, none⟩ = some _ := (below_cell hbel (World.block_lt_of_cell? w _ q3)).trans q3
      have hpa : PAddr wr a1.addr := q1.kept (fun k h _ => hbel.block k h)
      obtain ⟨l1, l2, l3⟩ := hway.last
      have hll : (ini ++ [(a1, p)]).length = ini.length + 1 := by simp
      rw [hll]
      obtain ⟨n, hn⟩ : ∃ n, n = ini.length := ⟨_, rfl⟩
      rw [← hn] at l1 l2 l3 ⊢
      have hn2 : n ≤ 1048577 := by simp at hlen; omega
      obtain ⟨_, _, _, hc1, hc2, _⟩ := hway.blk
      have hc1' : n + 1 ≤ cap := by simpa [hn] using hc1
      unfold maxLen at hc2
      have hnb : a1.nb < w.heap.size := World.block_lt_of_cell? w _ q2
      have HNB := Lib.hid hnb
      clear hnb
      have HN := Lib.hid hn
      have HWAY := Lib.hid hway
      have HFR := Lib.hid hfr
      have HDOWN := Lib.hid hdown
      have HMAP := Lib.hid hmap
      have HBEL := Lib.hid hbel
      have HPA := Lib.hid hpa
      have HQ := Lib.hid (And.intro q5 q6)
      have HK := Lib.hid hk
      have HP : p ≤ a1.cs.length := hp
      have HE8 := Lib.hid q8
      clear hway hfr hdown hmap hbel hpa q1 q2 q3 q4 q5 q6 q7 q8 hc1 hlen hk hat hll hn
      unfold ATr.addr at l1
      by_cases hpe : p = a1.cs.length
      · have hpe' : ((p : Int) == (a1.cs.length : Int)) = true := by simp [hpe]
        have HPE := Lib.hid hpe
        clear hpe
        go_wp2_with fail
        go_quiet (fail)
        have hmap' : BMap (wr.drewN nq) w.heap.size w.heap.size _ := HMAP.out.kept rfl (fun _ _ h => h)
        obtain ⟨o, hrun, hm', _, hne⟩ := bmap_update (wr.drewN nq) Tryd.underlying151 Tryd.underlying89 hit hsz hmap' (q := ⟨a1.nb, a1.no, none⟩) HPA.out HNB.out true
        have HM' := Lib.hid hm'
        clear hmap' hm' hne
        go_wp2_with fail
        go_roundg (todo ini)
        case measure => have := HK.out; rw [todo_append] at this; simp only [todo, todo1] at this; omega
        case rel =>
          have hg1 := HWAY.out.blk.1
          refine ⟨ini, g, cap, by rw [HN.out], HWAY.out.pop.kept ?_, fun f hf => HFR.out f (by simp [hf]), (List.pairwise_append.1 HDOWN.out).1, HM'.out.weaken ?_, ?_, Nat.le_refl _⟩
          · exact World.putObj_heap_other (by omega)
          · rintro ad (⟨⟨f, hf, rfl⟩, hne⟩ | ⟨h, _⟩)
            · rcases List.mem_append.1 hf with hf | hf
              · exact ⟨f, hf, rfl⟩
              · obtain rfl := List.mem_singleton.1 hf; exact absurd rfl hne
            · cases h
          · exact ((below_drewN HBEL.out nq)).trans ⟨rfl, rfl, rfl, by simp, fun k hk => World.putObj_heap_other (by omega)⟩
      · have hpe' : ((p : Int) == (a1.cs.length : Int)) = false := by rw [beq_eq_false_iff_ne]; omega
        have hpl : p < a1.cs.length := by omega
        obtain rfl := HE8.out.resolve_left (show ¬ a1.cs.length = 0 by omega)
        have hpl' : (p : Int) < (a1.cs.length : Int) := by omega
        obtain ⟨hk1, hk2⟩ := HQ.out.1 p hpl
        have hkid := HQ.out.2 p hpl
        have hwk := ATr.weight_kid hpl
        have hpk : PAddr wr ⟨h0, hoA + p * 2, none⟩ := by
          obtain ⟨_, _, _, _, _, _, _, _, z1, _⟩ := hkid.parts
          unfold ATr.addr at z1; rw [hk1, hk2] at z1
          exact z1.kept (fun k h _ => HBEL.out.block k h)
        have hkb : h0 < w.heap.size := by
          obtain ⟨_, _, _, _, _, _, _, _, _, z2, _⟩ := hkid.parts
          rw [hk1] at z2; exact World.block_lt_of_cell? w _ z2
        have HKB := Lib.hid hkb
        clear hkb
        have HKID := Lib.hid (And.intro hk1 (And.intro hk2 (And.intro hkid hpk)))
        have hp64 : p ≤ 1048576 := by have := ATr.ks_le a1; have : a1.weight ≤ 1048576 := hw1; omega
        clear hk1 hk2 hkid hpk hpe
        go_wp2_with fail
        go_quiet (fail)
        go_wp2_with fail
        go_quiet (fail)
        go_wp2_with fail
        generalize hW5 : (wr.drewN _).setCell ⟨g, n * 2 + 1, none⟩ (.int .i64 ((p : Int) + 1)) = W5
        obtain ⟨m, hW5⟩ : ∃ m, (wr.drewN m).setCell ⟨g, n * 2 + 1, none⟩ (.int .i64 ((p : Int) + 1)) = W5 := ⟨_, hW5⟩
        have hg1 := HWAY.out.blk.1
        have hway5 : Way W5 (w.heap.size + 1) g cap (ini ++ [(a1, p + 1)]) := by
          have h := (HWAY.out.kept (W' := wr.drewN m) rfl).pass (p + 1)
          rw [← HN.out] at h
          rw [← hW5]; exact h
        have hblk5 : ∀ k, k ≠ g → W5.heap[k]? = wr.heap[k]? := fun k hk => by rw [← hW5]; exact set_other _ _ _ _ _ hk
        have hpk5 : ∀ x, PAddr wr x → PAddr W5 x := fun x hx => by
          by_cases hxg : x.block = g
          · obtain ⟨cur, hcur, _⟩ := hway5.blk.2
            exact ⟨cur, _, by rw [hxg]; exact hcur⟩
          · exact hx.kept (fun k _ e => hblk5 k (by rw [e]; exact hxg))
        have hbel5 : Below w.heap.size w W5 := by rw [← hW5]; exact (below_drewN HBEL.out m).setCell (p := ⟨g, _, none⟩) (by show w.heap.size ≤ g; omega) _
        have hmap5 : BMap W5 w.heap.size w.heap.size _ := HMAP.out.kept (hblk5 _ (by omega)) (fun x _ => hpk5 x)
        clear hW5
        obtain ⟨bo, known, hlook, himp⟩ := bmap_lookup W5 Tryd.underlying151 Tryd.underlying89 hit hsz hib hbz hmap5 (q := ⟨h0, hoA + p * 2, none⟩) (hpk5 _ HKID.out.2.2.2)
        have hfr5 : ∀ f ∈ ini ++ [(a1, p + 1)], AT w f.1 ∧ f.2 ≤ f.1.cs.length ∧ f.1.weight ≤ 1048576 := fun f hf => by
          rcases List.mem_append.1 hf with hf | hf
          · exact HFR.out f (by simp [hf])
          · obtain rfl := List.mem_singleton.1 hf
            have h := HFR.out (a1, p) (by simp)
            exact ⟨h.1, hpl, h.2.2⟩
        have hdown5 : Down (ini ++ [(a1, p + 1)]) := by
          obtain ⟨d1, _, d3⟩ := List.pairwise_append.1 HDOWN.out
          exact List.pairwise_append.2 ⟨d1, List.pairwise_singleton _ _, fun x hx y hy => by obtain rfl := List.mem_singleton.1 hy; exact d3 x hx (a1, p) (by simp)⟩
        have hheavy : ∀ f ∈ ini ++ [(a1, p + 1)], a1.weight ≤ f.1.weight := fun f hf => by
          rcases List.mem_append.1 hf with hf' | hf'
          · have := (List.pairwise_append.1 hdown5).2.2 f hf' (a1, p + 1) (by simp); exact Nat.le_of_lt this
          · obtain rfl := List.mem_singleton.1 hf'; exact Nat.le_refl _
        have hno : ¬ (known = true ∧ bo = false) := by
          rintro ⟨k1, k2⟩
          obtain ⟨f, hf, he⟩ := himp k1 k2
          have hf' : ∃ f' ∈ ini ++ [(a1, p + 1)], f'.1 = f.1 := by
            rcases List.mem_append.1 hf with hf | hf
            · exact ⟨f, by simp [hf], rfl⟩
            · obtain rfl := List.mem_singleton.1 hf; exact ⟨(a1, p + 1), by simp, rfl⟩
          obtain ⟨f', m1, m2⟩ := hf'
          have hw := hheavy f' m1
          have hone := AT.one HKID.out.2.2.1 (hfr5 f' m1).1
          simp only [ATr.addr, Addr.mk.injEq, and_true] at he
          rw [← m2] at he
          have := hone (by rw [HKID.out.1]; exact he.1.symm) (by rw [HKID.out.2.1]; exact he.2.symm)
          rw [this] at hw
          have := ATr.weight_kid hpl
          omega
        have htd : todo (ini ++ [(a1, p + 1)]) + 1 + (a1.cs[p]).work ≤ gk := by
          have h := HK.out
          rw [todo_append] at h ⊢
          simp only [todo, todo1] at h ⊢
          rw [ATr.works_drop a1.cs p hpl] at h
          omega
        have H5 := Lib.hid (And.intro hway5 (And.intro hbel5 (And.intro hfr5 (And.intro hdown5 htd))))
        have HMAP5 := Lib.hid hmap5
        have HHV := Lib.hid hheavy
        have HPK := Lib.hid (hpk5 _ HKID.out.2.2.2)
        clear hway5 hblk5 hpk5 hbel5 hmap5 hfr5 hdown5 hheavy htd himp l1 l2 l3 c2 c3
        cases known with
        | true =>
          cases bo with
          | false => exact absurd ⟨rfl, rfl⟩ hno
          | true =>
          clear hno
          rw [hlook]
          go_wp2_with fail
          go_roundg (todo (ini ++ [(a1, p + 1)]))
          case measure => have := H5.out.2.2.2.2; omega
          case rel =>
            exact ⟨ini ++ [(a1, p + 1)], g, cap, by simp [HN.out], H5.out.1, H5.out.2.2.1, H5.out.2.2.2.1, HMAP5.out.weaken (fun ad ⟨f, hf, e⟩ => by
              rcases List.mem_append.1 hf with hf | hf
              · exact ⟨f, by simp [hf], e⟩
              · obtain rfl := List.mem_singleton.1 hf; exact ⟨(a1, p + 1), by simp, e⟩), H5.out.2.1, Nat.le_refl _⟩
        | false =>
          clear hno
          obtain ⟨o, hrun, hm6, _, hne6⟩ := bmap_update W5 Tryd.underlying151 Tryd.underlying89 hit hsz HMAP5.out (q := ⟨h0, hoA + p * 2, none⟩) HPK.out HKB.out false
          have HM6 := Lib.hid hm6
          have hsz5 : w.heap.size + 2 ≤ W5.heap.size := by have := H5.out.1.lt; have := H5.out.1.blk.1; omega
          obtain ⟨W6, hW6⟩ : ∃ W6, W6 = W5.putObj w.heap.size o := ⟨_, rfl⟩
          have hs6 : W6.heap.size = W5.heap.size := by rw [hW6]; simp
          have hw6 : Way W6 (w.heap.size + 1) g cap (ini ++ [(a1, p + 1)]) := H5.out.1.kept (by rw [hW6]; exact World.putObj_heap_other (by omega))
          have hb6 : Below w.heap.size w W6 := H5.out.2.1.trans (by rw [hW6]; exact ⟨rfl, rfl, rfl, by simp, fun k hk => World.putObj_heap_other (by omega)⟩)
          have hown6 : W6.ownsRow (w.heap.size + 1) 131 2 (.slice (some ⟨g, 0, none⟩) (n + 1) cap) (n + 1) (wcells (ini ++ [(a1, p + 1)])) := by
            have h := hw6
            unfold Way at h
            rw [show (ini ++ [(a1, p + 1)]).length = n + 1 by simp [HN.out]] at h
            exact h
          have hb7 : (W6.alloc (.cells #[.pointer (some ⟨h0, hoA + p * 2, none⟩), .int .i64 0] 131)).ownsRow (w.heap.size + 1) 131 2 (.slice (some ⟨g, 0, none⟩) (n + 1) cap) (n + 1) (wcells (ini ++ [(a1, p + 1)])) := hown6.alloc _
          have H6 := Lib.hid (And.intro hw6 (And.intro hb6 hb7))
          have HW6 := Lib.hid hW6
          have HM6' : Hid (BMap W6 w.heap.size w.heap.size _) := Lib.hid (by rw [hW6]; exact HM6.out)
          rw [← hW6] at hrun
          have hbase : w.heap.size + 1 ≤ (W6.alloc (.cells #[.pointer (some ⟨h0, hoA + p * 2, none⟩), .int .i64 0] 131)).heap.size := by simp; omega
          have HBASE := Lib.hid hbase
          have HS6 := Lib.hid hs6
          clear hm6 hne6 hw6 hb6 hb7 hown6 hW6 hs6 hbase
          go_wp2_with (at_builtin; refine wpList_append_lies _ (by rfl) _ _ _ (by rfl) (w.heap.size + 1) 131 i0 _ 2 16 Tryd.underlying132 hi0 hz0 hz1 hz2 rfl (by omega) (.slice (some ⟨g, 0, none⟩) (n + 1) cap) (n + 1) (wcells (ini ++ [(a1, p + 1)])) (by rfl) H6.out.2.2 ⟨W6.heap.size, 0, none⟩ 1 1 [.pointer (some ⟨h0, hoA + p * 2, none⟩), .int .i64 0] (by rfl) (by rfl) (World.news_of_block (cs := #[.pointer (some ⟨h0, hoA + p * 2, none⟩), .int .i64 0]) (t := 131) (fr := (0, 0)) (heap_alloc_new W6 _)) (by simp [Value.oneCell']) (by omega) (by unfold maxLen; omega) (by omega) HBASE.out (W6.heap.size + 1) (by simp) ?_; intro g8 cap8 w8 hown8 hgrow8 hat8 hlt8; have H8 := Lib.hid (And.intro hown8 (And.intro hgrow8 hat8)); clear hown8 hgrow8 hat8)
          go_roundg (todo (ini ++ [(a1, p + 1), (a1.cs[p], 0)]))
          case measure =>
            have h := H5.out.2.2.2.2
            rw [todo_append] at h ⊢
            simp only [todo, todo1, List.drop_zero] at h ⊢
            have hwk1 : (a1.cs[p]).work = 1 + ATr.works (a1.cs[p]).cs := by cases a1.cs[p]; rfl
            omega
          case rel =>
            have hg1 := H6.out.1.blk.1
            have hgl := H6.out.1.lt
            have hs6 := HS6.out
            have hold : ∀ k, k < W6.heap.size → k ≠ g → w8.heap[k]? = W6.heap[k]? := fun k h1 h2 => by
              rw [H8.out.2.1.block k (by simp; omega) (by simp [Value.ownBlock]; exact h2), old_blk _ _ _ h1]
            have hb8 : Below w.heap.size w w8 := H6.out.2.1.trans ⟨H8.out.2.1.os, H8.out.2.1.tape, H8.out.2.1.output, by have := H8.out.2.1.size; simp at this; omega, fun k hk => hold k (by omega) (by omega)⟩
            have hway8 : Way w8 (w.heap.size + 1) g8 cap8 (ini ++ [(a1, p + 1), (a1.cs[p], 0)]) := by
              have h := H8.out.1
              unfold Way
              rw [show (ini ++ [(a1, p + 1), (a1.cs[p], 0)]).length = n + 1 + 1 by simp [HN.out]]
              have e : wcells (ini ++ [(a1, p + 1), (a1.cs[p], 0)]) = wcells (ini ++ [(a1, p + 1)]) ++ [.pointer (some ⟨h0, hoA + p * 2, none⟩), .int .i64 0] := by
                rw [show ini ++ [(a1, p + 1), (a1.cs[p], 0)] = (ini ++ [(a1, p + 1)]) ++ [(a1.cs[p], 0)] by simp, wcells_append]
                simp [wcells, ATr.addr, HKID.out.1, HKID.out.2.1]
              rw [e]; exact h
            have hp8 : ∀ x : Addr, x.block < w.heap.size → PAddr W6 x → PAddr w8 x := fun x hxb hx => hx.kept (fun k h e => hold k h (by omega))
            have hmem : ∀ f ∈ ini ++ [(a1, p + 1), (a1.cs[p], 0)], f ∈ ini ++ [(a1, p + 1)] ∨ f = (a1.cs[p], 0) := fun f hf => by
              simp only [List.mem_append, List.mem_cons, List.not_mem_nil, or_false] at hf ⊢
              rcases hf with h | h | h
              · exact .inl (.inl h)
              · exact .inl (.inr h)
              · exact .inr h
            have hwk := ATr.weight_kid hpl
            refine ⟨_, g8, cap8, by simp [HN.out], hway8, fun f hf => ?_, ?_, ?_, hb8, Nat.le_refl _⟩
            · rcases hmem f hf with h | rfl
              · exact H5.out.2.2.1 f h
              · exact ⟨HKID.out.2.2.1, Nat.zero_le _, by show a1.cs[p].weight ≤ _; have := HHV.out; have : a1.weight ≤ 1048576 := hw1; omega⟩
            · rw [show ini ++ [(a1, p + 1), (a1.cs[p], 0)] = (ini ++ [(a1, p + 1)]) ++ [(a1.cs[p], 0)] by simp]
              refine List.pairwise_append.2 ⟨H5.out.2.2.2.1, List.pairwise_singleton _ _, fun x hx y hy => ?_⟩
              obtain rfl := List.mem_singleton.1 hy
              have := HHV.out x hx
              show a1.cs[p].weight < _
              omega
            · refine (HM6'.out.kept (hold _ (by omega) (by omega)) hp8).weaken ?_
              rintro ad (⟨⟨f, hf, rfl⟩, _⟩ | ⟨_, rfl⟩)
              · rcases List.mem_append.1 hf with hf | hf
                · exact ⟨f, by simp [hf], rfl⟩
                · obtain rfl := List.mem_singleton.1 hf
                  exact ⟨(a1, p + 1), by simp, rfl⟩
              · exact ⟨(a1.cs[p], 0), by simp, by simp [ATr.addr, HKID.out.1, HKID.out.2.1]⟩
end Go.Proofs.YtdcifdpkfcgmhaaDoor

/- What one comes by on the way through a tree: plain data. -/
namespace Go.Proofs.YtdcifdpkfcgmhaaDoor
open Go.RowKit

/-- A node that begins, a key, a node that ends. -/
inductive Step where
  | beg (a : ATr)
  | key (a : ATr) (k : Int)
  | fin (a : ATr)

def Step.enc : Step → Array Value
  | .beg a => #[.agg #[.pointer (some a.addr), .int .i64 0, .int .i64 0]]
  | .key a k => #[.agg #[.pointer (some a.addr), .int .i64 1, .int .i64 k]]
  | .fin a => #[.agg #[.pointer (some a.addr), .int .i64 2, .int .i64 0]]

/-- The steps at place q of a node: of a kid, or a key. -/
def hev (a : ATr) (kss : List (List Step)) (q : Nat) : List Step :=
  if q % 2 = 1 then (if q / 2 < a.ks.length then [.key a (a.ks.getD (q / 2) 0)] else []) else (kss[q / 2]?).getD []

/-- The steps from place p on. -/
def remOf (a : ATr) (kss : List (List Step)) (p : Nat) : List Step :=
  (List.range' p (2 * max a.cs.length a.ks.length - p)).flatMap (hev a kss) ++ [.fin a]

namespace ATr
mutual
def evs : ATr → List Step
  | .mk nb no ks cs => .beg (.mk nb no ks cs) :: remOf (.mk nb no ks cs) (evss cs) 0
def evss : List ATr → List (List Step)
  | [] => []
  | a :: r => evs a :: evss r
end
theorem evss_get (c : List ATr) (i : Nat) : (evss c)[i]? = (c[i]?).map evs := by
  induction c generalizing i with
  | nil => simp [evss]
  | cons a r ih =>
    cases i with
    | zero => simp [evss]
    | succ i => simpa [evss] using ih i
end ATr

def remS (f : ATr × Nat) : List Step := remOf f.1 (ATr.evss f.1.cs) f.2
theorem evs_eq (a : ATr) : a.evs = .beg a :: remS (a, 0) := by cases a; rfl

theorem remS_end {a : ATr} {p : Nat} (h : 2 * max a.cs.length a.ks.length ≤ p) : remS (a, p) = [.fin a] := by
  unfold remS remOf
  rw [show 2 * max a.cs.length a.ks.length - p = 0 by omega]
  rfl
theorem remS_step {a : ATr} {p : Nat} (h : p < 2 * max a.cs.length a.ks.length) : remS (a, p) = hev a (ATr.evss a.cs) p ++ remS (a, p + 1) := by
  unfold remS remOf
  show (List.range' p (2 * max a.cs.length a.ks.length - p)).flatMap _ ++ _ = _ ++ ((List.range' (p + 1) (2 * max a.cs.length a.ks.length - (p + 1))).flatMap _ ++ _)
  rw [show 2 * max a.cs.length a.ks.length - p = (2 * max a.cs.length a.ks.length - (p + 1)) + 1 by omega, List.range'_succ, List.flatMap_cons, List.append_assoc]
theorem hev_kid {a : ATr} {i : Nat} (h : i < a.cs.length) : hev a (ATr.evss a.cs) (2 * i) = a.cs[i].evs := by
  unfold hev
  rw [if_neg (by omega), show 2 * i / 2 = i by omega, ATr.evss_get]
  simp [h]
theorem hev_nokid {a : ATr} {i : Nat} (h : ¬ i < a.cs.length) : hev a (ATr.evss a.cs) (2 * i) = [] := by
  unfold hev
  rw [if_neg (by omega), show 2 * i / 2 = i by omega, ATr.evss_get]
  simp [List.getElem?_eq_none (Nat.le_of_not_lt h)]
theorem hev_key {a : ATr} {i : Nat} (h : i < a.ks.length) : hev a (ATr.evss a.cs) (2 * i + 1) = [.key a (a.ks.getD i 0)] := by
  unfold hev
  rw [if_pos (by omega), show (2 * i + 1) / 2 = i by omega, if_pos h]
theorem hev_nokey {a : ATr} {i : Nat} (h : ¬ i < a.ks.length) : hev a (ATr.evss a.cs) (2 * i + 1) = [] := by
  unfold hev
  rw [if_pos (by omega), show (2 * i + 1) / 2 = i by omega, if_neg h]

/-- What is still to come, the way being told from the root on. -/
def restS : List (ATr × Nat) → List Step
  | [] => []
  | f :: r => restS r ++ remS f
theorem restS_snoc (fr : List (ATr × Nat)) (f : ATr × Nat) : restS (fr ++ [f]) = remS f ++ restS fr := by
  induction fr with
  | nil => simp [restS]
  | cons g r ih => simp [restS, ih]

namespace ATr
mutual
/-- How many rounds a whole tree takes. -/
def whole : ATr → Nat
  | .mk _ _ k c => 2 * max c.length k.length + 1 + wholes c
def wholes : List ATr → Nat
  | [] => 0
  | a :: r => whole a + wholes r
end
theorem wholes_drop (c : List ATr) (p : Nat) (h : p < c.length) : wholes (c.drop p) = c[p].whole + wholes (c.drop (p + 1)) := by
  rw [List.drop_eq_getElem_cons h]; rfl
end ATr
/-- How many rounds are still to come, at most. -/
def mu1 (f : ATr × Nat) : Nat := (2 * max f.1.cs.length f.1.ks.length - f.2) + 1 + ATr.wholes (f.1.cs.drop ((f.2 + 1) / 2))
def mu : List (ATr × Nat) → Nat
  | [] => 0
  | f :: r => mu1 f + mu r
theorem mu_snoc (fr : List (ATr × Nat)) (f : ATr × Nat) : mu (fr ++ [f]) = mu fr + mu1 f := by
  induction fr with
  | nil => simp [mu]
  | cons g r ih => simp [mu, ih]; omega
theorem whole_eq (a : ATr) : a.whole = mu1 (a, 0) := by cases a; simp [ATr.whole, mu1, ATr.cs, ATr.ks]
theorem mu1_odd {a : ATr} {i : Nat} (h : 2 * i + 1 < 2 * max a.cs.length a.ks.length) : mu1 (a, 2 * i + 1 + 1) < mu1 (a, 2 * i + 1) := by
  simp only [mu1]
  rw [show (2 * i + 1 + 1 + 1) / 2 = i + 1 by omega, show (2 * i + 1 + 1) / 2 = i + 1 by omega]
  omega
theorem mu1_nokid {a : ATr} {i : Nat} (h : 2 * i < 2 * max a.cs.length a.ks.length) (hn : ¬ i < a.cs.length) : mu1 (a, 2 * i + 1) < mu1 (a, 2 * i) := by
  simp only [mu1]
  rw [List.drop_eq_nil_of_le (by omega), List.drop_eq_nil_of_le (by omega)]
  omega
theorem mu1_kid {a : ATr} {i : Nat} (h : i < a.cs.length) : mu1 (a, 2 * i + 1) + mu1 (a.cs[i], 0) < mu1 (a, 2 * i) := by
  rw [← whole_eq]
  simp only [mu1]
  rw [show (2 * i + 1 + 1) / 2 = i + 1 by omega, show (2 * i + 1) / 2 = i by omega, ATr.wholes_drop a.cs i h]
  omega
end Go.Proofs.YtdcifdpkfcgmhaaDoor

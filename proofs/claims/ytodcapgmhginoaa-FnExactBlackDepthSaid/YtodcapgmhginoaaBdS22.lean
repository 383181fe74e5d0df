/- How many nodes lie within each other: the program's nesting, at its instance for Bin. -/
import Derived.Test.YtodcapgmhginoaaProg
import Derived.Test.YtodcapgmhginoaaBdS0
import Derived.Test.YtodcapgmhginoaaBdS16
import Derived.Test.YtodcapgmhginoaaBdS18
import Derived.Test.YtodcapgmhginoaaBdS20
import Derived.Deep.LoopGhost
import Derived.Deep.QuietTactic
import Derived.BigQuiet
import Derived.StillTailTactics
import Derived.WalkSmall
namespace Go.Proofs.Ytodcapgmhginoaa
open Go.RowKit

theorem Try.infoSpotB : (Try.prog.info? 137).map (fun i => (i.zero, i.size, i.bytes)) = some (some (.agg #[.pointer none, .int .i64 0]), 2, 16) := by kernel_rfl
theorem Try.infoNodeB : (Try.prog.info? 48).map (fun i => (i.zero, i.size, i.bytes)) = some (some (.agg #[.int .i64 0, .bool false, .slice none 0 0]), 3, 40) := by kernel_rfl
theorem Try.infoIntB : (Try.prog.info? 3).map (fun i => (i.zero, i.size, i.bytes)) = some (some (.int .i64 0), 1, 8) := by kernel_rfl

set_option maxRecDepth 100000 in
set_option maxHeartbeats 2000000 in
theorem nestingB_c {α : Type} {g : Nat} {kf : Nat → Nat → Option Addr × Nat × Nat} {lf : Nat → Nat → α} {w : World} {r : Ro α} (eg : ∀ args w, (callFunc g args).run Try.prog w = .ok (.enter g args) w) (hr : RoAt Try.prog g 3 kf lf w r) (hs : r.siz ≤ 1048576) :
    Calls Try.prog 82 #[.pointer (some r.addr), .func (.func g) #[] #[]] w fun e w' => e = .returned (.int .i64 r.depth) ∧ Below w.heap.size w w' := by
  obtain ⟨i0, hi0, hz0, hz1, hz2⟩ := info_parts Try.infoSpotB
  obtain ⟨it, hit, htz, ht1, ht2⟩ := info_parts Try.infoNodeB
  obtain ⟨ib, hib, hbz, hb1, hb2⟩ := info_parts Try.infoIntB
  have hsz : it.size ≠ 0 := by rw [ht1]; decide
  have hmm := @run_makeMap Try.prog
  obtain ⟨RA, hRA⟩ : ∃ RA : Ro α → Prop, RA = RoAt Try.prog g 3 kf lf w := ⟨_, rfl⟩
  have hone : ∀ a b, RA a → RA b → b.addr = a.addr → b = a := fun a b ha hb h => by rw [hRA] at ha hb; exact ha.one hb h
  have hkid : ∀ (a : Ro α) i (h : i < a.cs.length), RA a → RA a.cs[i] := fun a i h ha => by rw [hRA] at ha ⊢; obtain ⟨_, _, _, _, _, _, _, _, _, hk, _⟩ := ha.parts; exact hk i h
  have hpadd : ∀ a, RA a → PAddr w a.addr := fun a ha => by rw [hRA] at ha; exact ha.padd
  have hpr := hr.padd
  have hra : RA r := by rw [hRA]; exact hr
  have hnw := imap_new w w.heap.size
  obtain ⟨o, hrun, hm1, -, -⟩ := imap_update (w.alloc (.map #[] 0)) Try.underlying140 Try.underlying88 hit hsz hnw (q := r.addr) (hpr.kept (fun k h _ => old_blk _ _ _ h)) hpr.lt 0
  have HONE := Lib.hid hone
  have HKID := Lib.hid hkid
  have HPADD := Lib.hid hpadd
  have HRAE := Lib.hid hRA
  have HRA := Lib.hid hra
  have HM1 := Lib.hid hm1
  have HEG := Lib.hid eg
  clear hRA hone hkid hpadd hpr hra hnw hm1 eg hr
  go_enter Try.func82, Try.ntmps82
  go_wp2_with fail
  obtain ⟨W2, hW2⟩ : ∃ W2, W2 = ((w.alloc (.map #[] 0)).putObj w.heap.size o).alloc (.cells #[.pointer (some r.addr), .int .i64 0] 137) := ⟨_, rfl⟩
  rw [← hW2]
  have hs2 : W2.heap.size = w.heap.size + 2 := by rw [hW2]; simp
  have hb2 : Below w.heap.size w W2 := by rw [hW2]; exact (((Below.refl w.heap.size w).alloc (Nat.le_refl _) _).trans (⟨rfl, rfl, rfl, by simp, fun k hk => World.putObj_heap_other (Nat.ne_of_lt hk)⟩ : Below w.heap.size (w.alloc (.map #[] 0)) ((w.alloc (.map #[] 0)).putObj w.heap.size o))).alloc (by simp) _
  have hm2 : IMap W2 w.heap.size w.heap.size (putK (fun _ => none) r.addr 0) := by
    rw [hW2]
    exact HM1.out.kept (old_blk _ _ _ (by simp)) (fun x _ hx => hx.kept (fun k h _ => old_blk _ _ _ h))
  have hway : RWay 137 W2 (w.heap.size + 1) (w.heap.size + 1) 1 [(r, 0)] := by
    refine RWay.of (cur := #[.pointer (some r.addr), .int .i64 0]) (Nat.le_refl _) ?_ (by simp) (by unfold maxLen; omega) rfl rfl
    have h := new_blk ((w.alloc (.map #[] 0)).putObj w.heap.size o) (.cells #[.pointer (some r.addr), .int .i64 0] 137)
    rw [show ((w.alloc (.map #[] 0)).putObj w.heap.size o).heap.size = w.heap.size + 1 by simp] at h
    rw [hW2]; exact h
  have H2 := Lib.hid (And.intro hb2 (And.intro hm2 hway))
  clear hW2 hb2 hm2 hway hmm hrun
  go_loopg [6] (rtodo [(r, 0)]) (fun k s6 wr => ∃ (fr : List (Ro α × Nat)) (gb cap : Nat) (M : Addr → Option Int), s6 = .slice (some ⟨gb, 0, none⟩) fr.length cap ∧ RWay 137 wr (w.heap.size + 1) gb cap fr ∧ (∀ f ∈ fr, RA f.1 ∧ f.2 ≤ f.1.cs.length ∧ f.1.siz ≤ 1048576) ∧ RDown fr ∧
    IMap wr w.heap.size w.heap.size M ∧ Told1 RA M fr ∧ OnWay M r fr.reverse ∧ Below w.heap.size w wr ∧ rtodo fr ≤ k)
  case atStart =>
    refine ⟨[(r, 0)], _, _, _, rfl, H2.out.2.2, fun f hf => by obtain rfl := List.mem_singleton.1 hf; exact ⟨HRA.out, Nat.zero_le _, hs⟩, List.pairwise_singleton _ _, H2.out.2.1, ⟨fun a ha => ?_, fun q z _ hz hne => ?_⟩, ⟨fun i hi => (by cases hi), rfl⟩, H2.out.1, Nat.le_refl _⟩
    · unfold putK at ha
      by_cases he : a = r.addr
      · exact ⟨(r, 0), by simp, he⟩
      · rw [if_neg he] at ha; cases ha
    · unfold putK at hz
      by_cases he : q.addr = r.addr
      · rw [if_pos he] at hz; exact absurd (Option.some.inj hz).symm hne
      · rw [if_neg he] at hz; cases hz
  case round =>
    obtain ⟨fr, gb, cap, M, rfl, hway, hfr, hdown, hmap, htold, hon, hbel, hk⟩ := hrel
    rcases List.eq_nil_or_concat fr with rfl | ⟨ini, f, rfl⟩
    · have hlk := imap_lookup wr Try.underlying140 Try.underlying88 hit hsz hib hbz hmap (q := r.addr) ((HPADD.out r HRA.out).kept (fun k h _ => hbel.block k h))
      have hM : M r.addr = some (r.depth : Int) := hon
      rw [hM] at hlk
      simp only [Option.getD_some] at hlk
      obtain ⟨-, hlk⟩ := hlk
      have HBEL := Lib.hid hbel
      clear hway hfr hdown hmap hbel htold hon hM
      go_wp2_with fail
      go_ret
      exact ⟨rfl, HBEL.out⟩
    · obtain ⟨a1, p⟩ := f
      simp only [List.concat_eq_append] at hway hfr hdown hmap htold hon hk ⊢
      have hlen := rdown_len hdown (N := 1048576) (fun f hf => (hfr f hf).2.2)
      obtain ⟨hat, hp, hw1⟩ := hfr (a1, p) (by simp)
      have hat' : RoAt Try.prog g 3 kf lf w a1 := by rw [← HRAE.out]; exact hat
      obtain ⟨ha, cap1, h0, ho0, q1, _, _, q3, q4, q5, q6⟩ := hat'.parts
      obtain ⟨l1, l2, l3⟩ := hway.last
      have hll : (ini ++ [(a1, p)]).length = ini.length + 1 := by simp
      rw [hll]
      obtain ⟨n, hn⟩ : ∃ n, n = ini.length := ⟨_, rfl⟩
      rw [← hn] at l1 l2 l3 ⊢
      have hn2 : n ≤ 1048577 := by simp at hlen; omega
      obtain ⟨_, _, _, hc1, hc2, _⟩ := hway.blk
      have hc1' : n + 1 ≤ cap := by simpa [hn] using hc1
      unfold maxLen at hc2
      have hnb : a1.nb < w.heap.size := q1.lt
      have hcs : a1.cs.length ≤ 1048576 := Nat.le_trans (Ro.cs_le a1) hw1
      have hg1 := hway.blk.1
      have HNB := Lib.hid hnb
      have HN := Lib.hid hn
      have HWAY := Lib.hid hway
      have HFR := Lib.hid hfr
      have HDOWN := Lib.hid hdown
      have HMAP := Lib.hid hmap
      have HTOLD := Lib.hid htold
      have HON := Lib.hid hon
      have HBEL := Lib.hid hbel
      have HPA := Lib.hid q1
      have HQ := Lib.hid (And.intro q4 q5)
      have HCALL := Lib.hid q3
      have HK := Lib.hid hk
      have HP : p ≤ a1.cs.length := hp
      have HE6 := Lib.hid q6
      have HRA1 := Lib.hid hat
      have HG1 := Lib.hid hg1
      clear hnb hway hfr hdown hmap hbel htold hon q1 q3 q4 q5 q6 hc1 hlen hk hat hat' hll hn hp hg1
      unfold Ro.addr at l1
      have heg := HEG.out
      go_wp2_with fail
      refine (HCALL.out wr HBEL.out).mono ?_
      rintro e w5 ⟨rfl, hb5⟩
      have hs5 := hb5.size
      have hzr := HBEL.out.size
      have hgl := HWAY.out.lt
      clear l1 l2 l3 heg
      have hway5 := HWAY.out.kept (hb5.block gb hgl)
      have hmap5 : IMap w5 w.heap.size w.heap.size M := HMAP.out.kept (hb5.block _ (by omega)) (fun x hx h => h.kept (fun k hk _ => hb5.block k hk))
      have hbel5 : Below w.heap.size w w5 := HBEL.out.trans (hb5.mono hzr)
      obtain ⟨l1, l2, l3⟩ := hway5.last
      rw [← HN.out] at l1 l2 l3
      unfold Ro.addr at l1
      have hpk : ∀ x, PAddr w x → PAddr w5 x := fun x hx => hx.kept (fun k h _ => hbel5.block k h)
      have H5 := Lib.hid (And.intro hway5 (And.intro hmap5 (And.intro hbel5 hpk)))
      clear hway5 hmap5 hbel5 hpk hb5
      by_cases hpe : p = a1.cs.length
      · have hpe' : ((p : Int) == (a1.cs.length : Int)) = true := by simp [hpe]
        have hall : ∀ j, j < a1.cs.length → (Instr.lookup 140 (.map (some w.heap.size)) (.pointer (some ⟨h0, ho0 + j * 3, none⟩)) false).run Try.prog w5 = .ok (.int .i64 (a1.cs.getD j a1).depth) w5 := fun j hj => by
          have hlk := imap_lookup w5 Try.underlying140 Try.underlying88 hit hsz hib hbz H5.out.2.1 (q := a1.cs[j].addr) (H5.out.2.2.2 _ (HPADD.out _ (HKID.out a1 j hj HRA1.out)))
          have hon := HON.out
          rw [List.reverse_append] at hon
          have hd : M a1.cs[j].addr = some (a1.cs[j].depth : Int) := hon.1 j (by show j < p; omega) hj
          rw [hd] at hlk
          obtain ⟨e1, e2⟩ := HQ.out.1 j hj
          have ead : a1.cs[j].addr = ⟨h0, ho0 + j * 3, none⟩ := by simp [Ro.addr, e1, e2]
          rw [ead] at hlk
          rw [hlk.2]
          simp [List.getD_eq_getElem?_getD, hj]
        have hdb : ∀ j, j ≤ a1.cs.length → Ro.depths (a1.cs.take j) ≤ 1048577 := by
          intro j
          induction j with
          | zero => intro _; simp [Ro.depths]
          | succ j ih =>
            intro hj
            rw [Ro.depths_get a1.cs j (by omega)]
            have h1 := ih (by omega)
            have h2 := Ro.depth_le 1048576 a1.cs[j] (by have := Ro.siz_kid (a := a1) (i := j) (by omega); omega)
            omega
        have HALL := Lib.hid hall
        have HDB := Lib.hid hdb
        have HPE := Lib.hid hpe
        clear hall hdb hpe
        go_wp2_with fail
        go_loop [9, 43] (fun s9 s43 => ∃ j D : Nat, j ≤ a1.cs.length ∧ s43 = .int .i64 j ∧ s9 = .int .i64 D ∧ Hid (D = Ro.depths (a1.cs.take j))) (fun _ s43 => a1.cs.length - (intOf s43).toNat)
        case atStart => exact ⟨0, 0, Nat.zero_le _, rfl, rfl, Lib.hid (by simp [Ro.depths])⟩
        case round =>
          obtain ⟨j, D, hj, rfl, rfl, HD⟩ := hrel
          have hdj := HDB.out j hj
          rw [← HD.out] at hdj
          by_cases hjl : j < a1.cs.length
          · have hjl' : (j : Int) < (a1.cs.length : Int) := by omega
            obtain rfl := HE6.out.resolve_left (show ¬ a1.cs.length = 0 by omega)
            have hlk := HALL.out j hjl
            have hkd := Ro.depth_le 1048576 (a1.cs.getD j a1) (by
              have := Ro.siz_kid hjl
              simp only [List.getD_eq_getElem?_getD, List.getElem?_eq_getElem hjl, Option.getD_some]
              omega)
            have hstep : Ro.depths (a1.cs.take (j + 1)) = max D (a1.cs.getD j a1).depth := by
              rw [Ro.depths_get a1.cs j hjl, HD.out]
              simp [List.getD_eq_getElem?_getD, hjl]
            obtain ⟨E, hE⟩ : ∃ E, E = (a1.cs.getD j a1).depth := ⟨_, rfl⟩
            rw [← hE] at hlk hkd hstep
            have HST := Lib.hid hstep
            have HEE := Lib.hid hE
            clear hstep hE
            go_wp2_with fail
            refine ⟨⟨j + 1, max D E, by omega, by go_num, ?_, Lib.hid (by rw [HST.out])⟩, by simp [intOf]; omega⟩
            split <;> (congr 1; omega)
          · have hjf : j = a1.cs.length := by omega
            subst hjf
            have hD : (a1.depth : Int) = (D : Int) + 1 := by
              rw [Ro.depth_eq, HD.out, List.take_length]; omega
            obtain ⟨o6, hrun, hm6, -, hne6⟩ := imap_update w5 Try.underlying140 Try.underlying88 hit hsz H5.out.2.1 (q := ⟨a1.nb, a1.no, none⟩) (H5.out.2.2.2 _ HPA.out) HNB.out ((D : Int) + 1)
            have HM6 := Lib.hid hm6
            have HDD := Lib.hid hD
            clear hm6 hne6 hD
            go_wp2_with fail
            go_roundg (rtodo ini)
            case measure => have := HK.out; rw [rtodo_append] at this; simp only [rtodo, rtodo1] at this; omega
            case rel =>
              have hg1 := HG1.out
              have hon := HON.out
              rw [List.reverse_append] at hon
              refine ⟨ini, gb, cap, _, by rw [HN.out], H5.out.1.pop.kept (World.putObj_heap_other (by omega)), fun f hf => HFR.out f (by simp [hf]), (List.pairwise_append.1 HDOWN.out).1, HM6.out, ?_, ?_, H5.out.2.2.1.trans ⟨rfl, rfl, rfl, by simp, fun k hk => World.putObj_heap_other (by omega)⟩, Nat.le_refl _⟩
              · rw [← HDD.out]
                exact Told1.pop HONE.out (f := (a1, a1.cs.length)) HTOLD.out (fun x hx => by
                  rcases List.mem_append.1 hx with h | h
                  · exact .inr h
                  · exact .inl (by rw [List.mem_singleton.1 h, HPE.out])) HRA1.out
              · rw [← HDD.out]
                exact OnWay.pop HONE.out HKID.out HRA1.out (fun x hx => (HFR.out x (by simp at hx; simp [hx])).1) hon
      · have hpe' : ((p : Int) == (a1.cs.length : Int)) = false := by rw [beq_eq_false_iff_ne]; omega
        have hpl : p < a1.cs.length := by omega
        obtain rfl := HE6.out.resolve_left (show ¬ a1.cs.length = 0 by omega)
        have hpl' : (p : Int) < (a1.cs.length : Int) := by omega
        obtain ⟨hk1, hk2⟩ := HQ.out.1 p hpl
        have hkra := HKID.out a1 p hpl HRA1.out
        have hsk := Ro.siz_kid hpl
        have hpk := H5.out.2.2.2 _ (HPADD.out _ hkra)
        have hkb := (HPADD.out _ hkra).lt
        have ead : a1.cs[p].addr = ⟨h0, ho0 + p * 3, none⟩ := by simp [Ro.addr, hk1, hk2]
        rw [ead] at hpk hkb
        have hkb' : h0 < w.heap.size := hkb
        have HKB := Lib.hid hkb'
        have HKID1 := Lib.hid (And.intro hkra (And.intro hpk ead))
        have hp64 : p ≤ 1048576 := by omega
        have HSK := Lib.hid hsk
        clear hk1 hk2 hkra hpk hkb hkb' ead hpe hsk
        go_wp2_with fail
        generalize hW6 : w5.setCell ⟨gb, n * 2 + 1, none⟩ (.int .i64 ((p : Int) + 1)) = W6
        have hg1 := HG1.out
        have hway6 : RWay 137 W6 (w.heap.size + 1) gb cap (ini ++ [(a1, p + 1)]) := by
          have h := H5.out.1.pass (p + 1)
          rw [← HN.out] at h
          rw [← hW6]; exact h
        have hblk6 : ∀ k, k ≠ gb → W6.heap[k]? = w5.heap[k]? := fun k hk => by rw [← hW6]; exact set_other _ _ _ _ _ hk
        have hpk6 : ∀ x : Addr, x.block < w.heap.size → PAddr w5 x → PAddr W6 x := fun x hxb hx => hx.kept (fun k _ e => hblk6 k (by omega))
        have hbel6 : Below w.heap.size w W6 := by rw [← hW6]; exact H5.out.2.2.1.setCell (p := ⟨gb, _, none⟩) (by show w.heap.size ≤ gb; omega) _
        have hmap6 : IMap W6 w.heap.size w.heap.size M := H5.out.2.1.kept (hblk6 _ (by omega)) hpk6
        clear hW6
        have hpq6 : PAddr W6 ⟨h0, ho0 + p * 3, none⟩ := hpk6 _ HKB.out HKID1.out.2.1
        have hlk := (imap_lookup W6 Try.underlying140 Try.underlying88 hit hsz hib hbz hmap6 (q := ⟨h0, ho0 + p * 3, none⟩) hpq6).1
        have hfr6 : ∀ f ∈ ini ++ [(a1, p + 1)], RA f.1 ∧ f.2 ≤ f.1.cs.length ∧ f.1.siz ≤ 1048576 := fun f hf => by
          rcases List.mem_append.1 hf with hf | hf
          · exact HFR.out f (by simp [hf])
          · obtain rfl := List.mem_singleton.1 hf
            exact ⟨HRA1.out, hpl, hw1⟩
        have hdown6 : RDown (ini ++ [(a1, p + 1)]) := by
          obtain ⟨d1, _, d3⟩ := List.pairwise_append.1 HDOWN.out
          exact List.pairwise_append.2 ⟨d1, List.pairwise_singleton _ _, fun x hx y hy => by obtain rfl := List.mem_singleton.1 hy; exact d3 x hx (a1, p) (by simp)⟩
        have hheavy : ∀ f ∈ ini ++ [(a1, p)], a1.siz ≤ f.1.siz := fun f hf => by
          rcases List.mem_append.1 hf with hf' | hf'
          · have := (List.pairwise_append.1 HDOWN.out).2.2 f hf' (a1, p) (by simp); exact Nat.le_of_lt this
          · obtain rfl := List.mem_singleton.1 hf'; exact Nat.le_refl _
        have hno : M ⟨h0, ho0 + p * 3, none⟩ ≠ some 0 := fun h => by
          obtain ⟨f, hf, e⟩ := HTOLD.out.zero _ h
          have h1 := HONE.out f.1 a1.cs[p] (HFR.out f hf).1 HKID1.out.1 (by rw [HKID1.out.2.2, e])
          have h2 := hheavy f hf
          rw [← h1] at h2
          have := HSK.out
          omega
        have hmem6 : ∀ x ∈ ini ++ [(a1, p)], ∃ y ∈ ini ++ [(a1, p + 1)], y.1 = x.1 := fun x hx => by
          rcases List.mem_append.1 hx with h | h
          · exact ⟨x, by simp [h], rfl⟩
          · obtain rfl := List.mem_singleton.1 h; exact ⟨(a1, p + 1), by simp, rfl⟩
        have hon : OnWay M r ((a1, p) :: ini.reverse) := by have h := HON.out; rw [List.reverse_append] at h; exact h
        have htd : rtodo (ini ++ [(a1, p + 1)]) + 1 + (a1.cs[p]).work ≤ gk := by
          have h := HK.out
          rw [rtodo_append] at h ⊢
          simp only [rtodo, rtodo1] at h ⊢
          rw [Ro.works_drop a1.cs p hpl] at h
          omega
        have H6 := Lib.hid (And.intro hway6 (And.intro hbel6 (And.intro hfr6 (And.intro hdown6 htd))))
        have HMAP6 := Lib.hid hmap6
        have HHV := Lib.hid hheavy
        have HPQ := Lib.hid hpq6
        have HPK6 := Lib.hid hpk6
        have HON6 := Lib.hid hon
        have HMEM := Lib.hid hmem6
        have hblk6' := hway6.lt
        clear hway6 hblk6 hpk6 hbel6 hmap6 hfr6 hdown6 hheavy htd hpq6 hon hmem6 l1 l2 l3
        cases hMq : M ⟨h0, ho0 + p * 3, none⟩ with
        | some z =>
          have hz0 : z ≠ 0 := fun h => hno (by rw [hMq, h])
          have hzd := HTOLD.out.deep a1.cs[p] z HKID1.out.1 (by rw [HKID1.out.2.2]; exact hMq) hz0
          have hz0' : (z == 0) = false := by rw [beq_eq_false_iff_ne]; exact hz0
          rw [hMq] at hlk
          simp only [Option.getD_some, Option.isSome_some] at hlk
          have HZ := Lib.hid (And.intro hMq hzd)
          clear hMq hzd hno hz0
          rw [hlk]
          go_wp2_with fail
          go_roundg (rtodo (ini ++ [(a1, p + 1)]))
          case measure => have := H6.out.2.2.2.2; omega
          case rel =>
            refine ⟨ini ++ [(a1, p + 1)], gb, cap, M, by simp [HN.out], H6.out.1, H6.out.2.2.1, H6.out.2.2.2.1, HMAP6.out, HTOLD.out.weaken HMEM.out, ?_, H6.out.2.1, Nat.le_refl _⟩
            rw [List.reverse_append]
            exact HON6.out.known hpl (by rw [HKID1.out.2.2, HZ.out.1, HZ.out.2])
        | none =>
          rw [hMq] at hlk
          simp only [Option.getD_none, Option.isSome_none] at hlk
          have HZ := Lib.hid hMq
          clear hMq hno
          rw [hlk]
          obtain ⟨o7, hrun, hm7, -, hne7⟩ := imap_update W6 Try.underlying140 Try.underlying88 hit hsz HMAP6.out (q := ⟨h0, ho0 + p * 3, none⟩) HPQ.out HKB.out 0
          obtain ⟨W7, hW7⟩ : ∃ W7, W7 = W6.putObj w.heap.size o7 := ⟨_, rfl⟩
          have hs7 : W7.heap.size = W6.heap.size := by rw [hW7]; simp
          have hg1 := HG1.out
          have hw7 : RWay 137 W7 (w.heap.size + 1) gb cap (ini ++ [(a1, p + 1)]) := H6.out.1.kept (by rw [hW7]; exact World.putObj_heap_other (by omega))
          have hb7 : Below w.heap.size w W7 := H6.out.2.1.trans (by rw [hW7]; exact ⟨rfl, rfl, rfl, by simp, fun k hk => World.putObj_heap_other (by omega)⟩)
          have hm7' : IMap W7 w.heap.size w.heap.size (putK M ⟨h0, ho0 + p * 3, none⟩ 0) := by rw [hW7]; exact hm7
          have hown7 : W7.ownsRow (w.heap.size + 1) 137 2 (.slice (some ⟨gb, 0, none⟩) (n + 1) cap) (n + 1) (rcells (ini ++ [(a1, p + 1)])) := by
            have h := hw7
            unfold RWay at h
            rw [show (ini ++ [(a1, p + 1)]).length = n + 1 by simp [HN.out]] at h
            exact h
          have hown8 : (W7.alloc (.cells #[.pointer (some ⟨h0, ho0 + p * 3, none⟩), .int .i64 0] 137)).ownsRow (w.heap.size + 1) 137 2 (.slice (some ⟨gb, 0, none⟩) (n + 1) cap) (n + 1) (rcells (ini ++ [(a1, p + 1)])) := hown7.alloc _
          rw [← hW7] at hrun
          have hbase : w.heap.size + 1 ≤ (W7.alloc (.cells #[.pointer (some ⟨h0, ho0 + p * 3, none⟩), .int .i64 0] 137)).heap.size := by simp; omega
          have H7 := Lib.hid (And.intro hw7 (And.intro hb7 (And.intro hown8 hm7')))
          have HBASE := Lib.hid hbase
          have HS7 := Lib.hid hs7
          clear hm7 hne7 hw7 hb7 hown7 hown8 hm7' hW7 hs7 hbase
          go_wp2_with (at_builtin; refine wpList_append_lies _ (by rfl) _ _ _ (by rfl) (w.heap.size + 1) 137 i0 _ 2 16 Try.underlying138 hi0 hz0 hz1 hz2 rfl (by omega) (.slice (some ⟨gb, 0, none⟩) (n + 1) cap) (n + 1) (rcells (ini ++ [(a1, p + 1)])) (by rfl) H7.out.2.2.1 ⟨W7.heap.size, 0, none⟩ 1 1 [.pointer (some ⟨h0, ho0 + p * 3, none⟩), .int .i64 0] (by rfl) (by rfl) (World.news_of_block (cs := #[.pointer (some ⟨h0, ho0 + p * 3, none⟩), .int .i64 0]) (t := 137) (fr := (0, 0)) (heap_alloc_new W7 _)) (by simp [Value.oneCell']) (by omega) (by unfold maxLen; omega) (by omega) HBASE.out (W7.heap.size + 1) (by simp) ?_; intro g8 cap8 w8 hown8 hgrow8 hat8 hlt8; have H8 := Lib.hid (And.intro hown8 (And.intro hgrow8 hat8)); clear hown8 hgrow8 hat8)
          go_roundg (rtodo (ini ++ [(a1, p + 1), (a1.cs[p], 0)]))
          case measure =>
            have h := H6.out.2.2.2.2
            rw [rtodo_append] at h ⊢
            simp only [rtodo, rtodo1, List.drop_zero] at h ⊢
            have hwk1 : (a1.cs[p]).work = 1 + Ro.works (a1.cs[p]).cs := by cases a1.cs[p]; rfl
            omega
          case rel =>
            have hg1 := HG1.out
            have hgl := H7.out.1.lt
            have hs7 := HS7.out
            have hold : ∀ k, k < W7.heap.size → k ≠ gb → w8.heap[k]? = W7.heap[k]? := fun k h1 h2 => by
              rw [H8.out.2.1.block k (by simp; omega) (by simp [Value.ownBlock]; exact h2), old_blk _ _ _ h1]
            have hb8 : Below w.heap.size w w8 := H7.out.2.1.trans ⟨H8.out.2.1.os, H8.out.2.1.tape, H8.out.2.1.output, by have := H8.out.2.1.size; simp at this; omega, fun k hk => hold k (by omega) (by omega)⟩
            have hway8 : RWay 137 w8 (w.heap.size + 1) g8 cap8 (ini ++ [(a1, p + 1), (a1.cs[p], 0)]) := by
              have h := H8.out.1
              unfold RWay
              rw [show (ini ++ [(a1, p + 1), (a1.cs[p], 0)]).length = n + 1 + 1 by simp [HN.out]]
              have e : rcells (ini ++ [(a1, p + 1), (a1.cs[p], 0)]) = rcells (ini ++ [(a1, p + 1)]) ++ [.pointer (some ⟨h0, ho0 + p * 3, none⟩), .int .i64 0] := by
                rw [show ini ++ [(a1, p + 1), (a1.cs[p], 0)] = (ini ++ [(a1, p + 1)]) ++ [(a1.cs[p], 0)] by simp, rcells_append]
                simp [rcells, HKID1.out.2.2]
              rw [e]; exact h
            have hp8 : ∀ x : Addr, x.block < w.heap.size → PAddr W7 x → PAddr w8 x := fun x hxb hx => hx.kept (fun k h e => hold k h (by omega))
            have hmem : ∀ f ∈ ini ++ [(a1, p + 1), (a1.cs[p], 0)], f ∈ ini ++ [(a1, p + 1)] ∨ f = (a1.cs[p], 0) := fun f hf => by
              simp only [List.mem_append, List.mem_cons, List.not_mem_nil, or_false] at hf ⊢
              rcases hf with h | h | h
              · exact .inl (.inl h)
              · exact .inl (.inr h)
              · exact .inr h
            have hsk := HSK.out
            refine ⟨_, g8, cap8, _, by simp [HN.out], hway8, fun f hf => ?_, ?_, H7.out.2.2.2.kept (hold _ (by omega) (by omega)) hp8, ?_, ?_, hb8, Nat.le_refl _⟩
            · rcases hmem f hf with h | rfl
              · exact H6.out.2.2.1 f h
              · exact ⟨HKID1.out.1, Nat.zero_le _, by show a1.cs[p].siz ≤ _; omega⟩
            · rw [show ini ++ [(a1, p + 1), (a1.cs[p], 0)] = (ini ++ [(a1, p + 1)]) ++ [(a1.cs[p], 0)] by simp]
              refine List.pairwise_append.2 ⟨H6.out.2.2.2.1, List.pairwise_singleton _ _, fun x hx y hy => ?_⟩
              obtain rfl := List.mem_singleton.1 hy
              have hx' : ∃ z ∈ ini ++ [(a1, p)], z.1 = x.1 := by
                rcases List.mem_append.1 hx with h | h
                · exact ⟨x, by simp [h], rfl⟩
                · obtain rfl := List.mem_singleton.1 h; exact ⟨(a1, p), by simp, rfl⟩
              obtain ⟨z, hz, ez⟩ := hx'
              have := HHV.out z hz
              rw [ez] at this
              show a1.cs[p].siz < _
              omega
            · rw [← HKID1.out.2.2]
              exact Told1.push (f := (a1.cs[p], 0)) HTOLD.out (fun x hx => by
                obtain ⟨y, hy, e⟩ := HMEM.out x hx
                exact ⟨y, by simp at hy ⊢; rcases hy with h | h <;> simp [h], e⟩) (by simp)
            · rw [← HKID1.out.2.2, show (ini ++ [(a1, p + 1), (a1.cs[p], 0)]).reverse = (a1.cs[p], 0) :: (a1, p + 1) :: ini.reverse by simp]
              exact OnWay.push HONE.out HKID.out HRA1.out (fun x hx => (HFR.out x (by simp at hx; simp [hx])).1) HON6.out hpl (by rw [HKID1.out.2.2]; exact HZ.out)
end Go.Proofs.Ytodcapgmhginoaa

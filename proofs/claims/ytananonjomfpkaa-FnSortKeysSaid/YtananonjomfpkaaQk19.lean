/- The model's SortKeys. -/
import Derived.Test.YtananonjomfpkaaQk18
/- A list of keys inserted one behind the other: plain data. -/
namespace Go.Proofs.Ytananonjomfpkaa
open Go.RowKit
namespace Tr
def putKey (wide : Int) (s : Tr × Nat) (k : Int) : Tr × Nat := if (s.1.path k).2 then s else (insT wide k s.1, s.2 + insN wide k s.1)
def allIn (wide : Int) (ks : List Int) : Tr × Nat := ks.foldl (putKey wide) (.mk [] [], 0)
def allOk (wide : Int) (ks : List Int) : Bool := inB wide 2 6 && keysOk ks
def insAllT (wide : Int) (ks : List Int) : Tr := if allOk wide ks then (allIn wide ks).1 else .mk [] []
def splitsOfB (wide : Int) (ks : List Int) : Int := if allOk wide ks then ((allIn wide ks).2 : Int) else -1
end Tr
theorem keysOk_at {ks : List Int} (h : keysOk ks = true) : (∀ i, i < ks.length → inB (ks.getD i 0) 0 99 = true) ∧ ks.length ≤ 200 := by
 unfold keysOk at h
 rw [Bool.and_eq_true, List.all_eq_true] at h
 exact ⟨fun i hi => h.1 i (by simpa using hi), of_decide_eq_true h.2⟩
end Go.Proofs.Ytananonjomfpkaa
/- The keys of a list in order, each once: plain data. -/
namespace Go.Proofs.Ytananonjomfpkaa
open Go.RowKit
def sortedTo (ks : List Int) (n : Nat) : List Int := ((List.range n).map (fun i : Nat => (i : Int))).filter (fun x => decide (x ∈ ks))
def sortL (ks : List Int) : List Int := if keysOk ks = true then sortedTo ks 100 else []
theorem sortedTo_snoc (ks : List Int) (n : Nat) : sortedTo ks (n + 1) = if (n : Int) ∈ ks then sortedTo ks n ++ [(n : Int)] else sortedTo ks n := by
 unfold sortedTo
 rw [List.range_succ, List.map_append, List.filter_append]
 by_cases h : (n : Int) ∈ ks
 · rw [if_pos h]; simp [h]
 · rw [if_neg h]; simp [h]
theorem sortedTo_len (ks : List Int) (n : Nat) : (sortedTo ks n).length ≤ n := by
 unfold sortedTo
 exact Nat.le_trans (List.length_filter_le _ _) (by simp)
theorem mem_sortedTo (ks : List Int) (n : Nat) (x : Int) : x ∈ sortedTo ks n ↔ x ∈ ks ∧ 0 ≤ x ∧ x < n := by
 unfold sortedTo
 simp only [List.mem_filter, List.mem_map, List.mem_range, decide_eq_true_eq]
 constructor
 · rintro ⟨⟨i, hi, rfl⟩, h2⟩
   exact ⟨h2, by omega, by omega⟩
 · rintro ⟨h1, h2, h3⟩
   exact ⟨⟨x.toNat, by omega, by omega⟩, h1⟩
theorem sorted_sortedTo (ks : List Int) (n : Nat) : (sortedTo ks n).Pairwise (· < ·) := by
 unfold sortedTo
 refine List.Pairwise.filter _ ?_
 rw [List.pairwise_map]
 exact List.pairwise_lt_range.imp (fun h => by omega)
end Go.Proofs.Ytananonjomfpkaa
/- What a sorted list of keys is: plain data. -/
namespace Go.Proofs.Ytananonjomfpkaa
open Go.RowKit
theorem sort_facts {ks : List Int} (h : keysOk ks = true) : (∀ x, x ∈ sortL ks ↔ x ∈ ks) ∧ keysOk (sortL ks) = true ∧ sortL (sortL ks) = sortL ks ∧ (sortL ks).Pairwise (· < ·) := by
 have e : sortL ks = sortedTo ks 100 := by simp [sortL, h]
 have hb : ∀ y ∈ ks, 0 ≤ y ∧ y ≤ 99 := fun y hy => by
   obtain ⟨i, hi, rfl⟩ := List.mem_iff_getElem.1 hy
   have := (keysOk_at h).1 i hi
   rw [List.getD_eq_getElem?_getD, List.getElem?_eq_getElem hi] at this
   simp only [inB, Bool.and_eq_true, decide_eq_true_eq, Option.getD_some] at this
   exact this
 have hm : ∀ x, x ∈ sortedTo ks 100 ↔ x ∈ ks := fun x => by
   rw [mem_sortedTo]
   exact ⟨fun hx => hx.1, fun hx => by have := hb x hx; exact ⟨hx, by omega, by omega⟩⟩
 have hok : keysOk (sortedTo ks 100) = true := by
   rw [keysOk_of (fun i hi => ?_)]
   · have := sortedTo_len ks 100
     exact decide_eq_true (by omega)
   · have hx : (sortedTo ks 100).getD i 0 ∈ sortedTo ks 100 := by
       rw [List.getD_eq_getElem?_getD, List.getElem?_eq_getElem hi]
       exact List.getElem_mem hi
     have := hb _ ((hm _).1 hx)
     simp only [inB, Bool.and_eq_true, decide_eq_true_eq]
     exact this
 have hso := sorted_sortedTo ks 100
 refine ⟨by rw [e]; exact hm, by rw [e]; exact hok, ?_, by rw [e]; exact hso⟩
 rw [e, show sortL (sortedTo ks 100) = sortedTo (sortedTo ks 100) 100 by simp [sortL, hok]]
 refine sorted_ext _ _ (sorted_sortedTo _ 100) hso (fun x => ?_)
 rw [mem_sortedTo]
 exact ⟨fun hx => hx.1, fun hx => by have := hb x ((hm x).1 hx); exact ⟨hx, by omega, by omega⟩⟩
theorem sortL_few (ks : List Int) : (sortL ks).length ≤ 100 := by
 unfold sortL
 split
 · exact sortedTo_len ks 100
 · simp
theorem sort_none_of {ks : List Int} (h : keysOk ks = false) : sortL ks = [] := by simp [sortL, h]
end Go.Proofs.Ytananonjomfpkaa
/- The model's SortKeys. -/
namespace Go.Proofs.Ytananonjomfpkaa
open Go.RowKit
theorem take_not {ks : List Int} {j : Nat} {x n : Int} (h : j < ks.length) (hx : ks.getD j 0 = x) (hn : n ∉ ks.take j) (hne : x ≠ n) : n ∉ ks.take (j + 1) := by
 have e : ks.getD j 0 = ks[j] := by simp [List.getD_eq_getElem?_getD, h]
 rw [List.take_succ_eq_append_getElem h, ← e, List.mem_append, List.mem_singleton, hx]
 rintro (h1 | h1)
 · exact hn h1
 · exact hne h1.symm
set_option maxRecDepth 100000 in
set_option maxHeartbeats 2000000 in
theorem specSortKeys_c {v : Value} {ks : List Int} (w : World) (B : Nat) (hk : IntsIn w B v ks) (hB : B ≤ w.heap.size) :
   Calls Try.prog 49 #[v] w fun e w' => ∃ v', e = .returned (.tuple #[v', .bool (keysOk ks)]) ∧ IntsOwn w' w.heap.size v' (sortL ks) ∧ Below w.heap.size w w' := by
 have HK := Lib.hid hk
 obtain ⟨a, cap, rfl, h1, h2, -, -⟩ := hk
 unfold maxLen at h2
 obtain ⟨W1, hW1⟩ : ∃ W1, W1 = w.alloc (.cells #[] 3) := ⟨_, rfl⟩
 have hs1 : w.heap.size < W1.heap.size := by rw [hW1]; simp
 have hb1 : Below w.heap.size w W1 := by rw [hW1]; exact (Below.refl _ _).alloc (Nat.le_refl _) _
 have hown1 : IntsOwn W1 w.heap.size (.slice (some ⟨w.heap.size, 0, none⟩) 0 0) [] := by rw [hW1]; exact World.ownsRow_made w #[] 0 (Nat.le_refl _) (by unfold maxLen; omega) rfl
 have HL := Lib.hid (l3Keys_c W1 B (HK.out.later hb1 hB))
 have H1 := Lib.hid (And.intro hb1 hown1)
 have HW1 := Lib.hid hW1
 clear hW1 hb1 hown1
 go_enter Try.func49, Try.ntmps49
 go_wp2_with fail
 rw [← HW1.out]
 refine HL.out.mono ?_
 rintro e w2 ⟨rfl, hw2⟩
 subst hw2
 cases hko : keysOk ks with
 | false =>
   have HS := Lib.hid (show sortL ks = [] by simp [sortL, hko])
   have HKO := Lib.hid hko
   clear hko
   go_wp2_with fail
   exact bodyPost_ret (v := .tuple #[.slice (some ⟨w.heap.size, 0, none⟩) 0 0, .bool false]) (by simp [results, Try.results49]) rfl ⟨_, by rw [HKO.out], by rw [HS.out]; exact H1.out.2, H1.out.1⟩
 | true =>
   have HS := Lib.hid (show sortL ks = sortedTo ks 100 by simp [sortL, hko])
   have HKO := Lib.hid hko
   clear hko
   go_wp2_with fail
   go_loopw [4, 13] (fun s4 i wr => ∃ (n : Nat), n ≤ 100 ∧ i = .int .i64 n ∧ IntsOwn wr w.heap.size s4 (sortedTo ks n) ∧ Below w.heap.size w wr) (fun _ i _ => 100 - (intOf i).toNat)
   case atStart => exact ⟨0, Nat.zero_le _, rfl, H1.out.2, H1.out.1⟩
   case round =>
     obtain ⟨n, hn, rfl, hown, hbel⟩ := hrel
     obtain ⟨oa, oc, rfl⟩ := IntsOwn.shown hown
     have hsz := hbel.size
     have HR := Lib.hid (And.intro hown hbel)
     clear hown hbel
     by_cases hlt : n < 100
     · have hnl : (n : Int) < 100 := by omega
       have hll := sortedTo_len ks n
       obtain ⟨L, hL⟩ : ∃ L, L = sortedTo ks n := ⟨_, rfl⟩
       have HSN := Lib.hid (sortedTo_snoc ks n)
       rw [← hL] at hll
       have HLL := Lib.hid hL
       rw [← hL]
       clear hL
       obtain ⟨N, hN⟩ : ∃ N : Int, N = n := ⟨_, rfl⟩
       rw [← hN] at hnl ⊢
       have hwrN : IntKind.i64.wrap (N + 1) = N + 1 := by rw [IntKind.wrap_i64]; omega
       have HN := Lib.hid hN
       clear hN
       go_wp2_with fail
       go_loopw [4, 18] (fun s4 i wx => ∃ (j : Nat), j ≤ ks.length ∧ i = .int .i64 j ∧ N ∉ ks.take j ∧ s4 = .slice oa L.length oc ∧ wx = wr) (fun _ i _ => ks.length - (intOf i).toNat)
       case atStart => exact ⟨0, Nat.zero_le _, rfl, by simp, rfl, rfl⟩
       case round =>
         obtain ⟨j, hj, rfl, hnin, rfl, hwx⟩ := hrel
         have hwx' := hwx.symm
         subst hwx'
         have HNI := Lib.hid hnin
         clear hnin
         by_cases hjt : j < ks.length
         · have hin := HK.out
           obtain ⟨_, _, hve, -, -, -, h3⟩ := hin
           simp only [Value.slice.injEq] at hve
           obtain ⟨rfl, -, -⟩ := hve
           rcases h3 with h | ⟨b, off, rfl, hb, hat⟩
           · simp [h] at hjt
           have ha := hat j hjt
           rw [← below_cell HR.out.2 (by omega)] at ha
           have HTN := Lib.hid (fun hne => take_not (ks := ks) (j := j) (x := ks.getD j 0) (n := N) hjt rfl HNI.out hne)
           have HMM := Lib.hid (show ks.getD j 0 ∈ ks by rw [List.getD_eq_getElem?_getD, List.getElem?_eq_getElem hjt]; exact List.getElem_mem hjt)
           generalize ks.getD j 0 = x at ha HTN HMM
           have hjl : (j : Int) < (ks.length : Int) := by omega
           clear hat hb
           by_cases hx : x = N
           · have hxe : (x == N) = true := by simp [hx]
             have HSM := Lib.hid (show sortedTo ks (n + 1) = L ++ [N] by rw [HSN.out, if_pos (by rw [← HN.out, ← hx]; exact HMM.out), ← HLL.out, HN.out])
             have HO1 := Lib.hid (IntsOwn.alloc' HR.out.1 (.cells #[.int .i64 N] 3))
             have HSR := Lib.hid (IntsAt.one wr N)
             have hlo : w.heap.size ≤ (wr.alloc (.cells #[.int .i64 N] 3)).heap.size := by simp; omega
             have HLN : Hid (L.length + [N].length ≤ 17592186044416) := Lib.hid (by simp; omega)
             rw [← HLL.out] at HO1
             clear hx
             go_wp2_with (at_builtin; refine wpList_append_ints rfl _ _ rfl w.heap.size _ _ L [N] rfl HO1.out rfl HSR.out HLN.out hlo ?_; intro v4 w8 hown8 hbel8 _ hsh8; obtain ⟨a8, c8, rfl⟩ := hsh8; generalize hL8 : L ++ [N] = L8 at hown8 ⊢; have HL8 := Lib.hid hL8; have HNN := Lib.hid (And.intro hown8 hbel8); clear hown8 hbel8 hL8)
             go_roundw
             case rel =>
               refine ⟨n + 1, by omega, by rw [HN.out]; first | rfl | go_num, ?_, HR.out.2.trans (((Below.refl _ _).alloc hsz _).trans HNN.out.2)⟩
               rw [HSM.out, HL8.out]
               exact HNN.out.1
             case measure => have := HN.out; simp [intOf]; omega
           · have hxe : (x == N) = false := by simp [hx]
             have HNX := Lib.hid (HTN.out hx)
             clear hx
             go_wp2_with fail
             go_roundw
             case rel => exact ⟨j + 1, by omega, by go_num, HNX.out, rfl, by first | rfl | trivial⟩
             case measure => simp [intOf]; omega
         · have hjl : ¬ (j : Int) < (ks.length : Int) := by omega
           have hje : j = ks.length := by omega
           have HSM := Lib.hid (show sortedTo ks (n + 1) = L by
             rw [HSN.out, if_neg, HLL.out]
             have h := HNI.out
             rw [hje, List.take_length, HN.out] at h
             exact h)
           clear hje
           go_wp2_with fail
           go_roundw
           case rel =>
             refine ⟨n + 1, by omega, by rw [HN.out]; first | rfl | go_num, ?_, HR.out.2⟩
             rw [HSM.out, HLL.out]
             exact HR.out.1
           case measure => have := HN.out; simp [intOf]; omega
     · have hne : n = 100 := by omega
       have hnl : ¬ (n : Int) < 100 := by omega
       have HNE := Lib.hid hne
       clear hlt hne
       go_wp2_with fail
       exact bodyPost_ret (v := .tuple #[.slice oa (sortedTo ks n).length oc, .bool true]) (by simp [results, Try.results49]) rfl ⟨_, by rw [HKO.out], by rw [HS.out, ← HNE.out]; exact HR.out.1, HR.out.2⟩
end Go.Proofs.Ytananonjomfpkaa

/- The library's sort over a row of ints of the call's own; what compares; what leaves each once. -/
import Derived.Test.YtananonjomfpkaaQkS24
import Derived.Shelf.SlSortCmp.NoneTotal
import Derived.Test.YtananonjomfpkaaQk1
import Derived.Lib.SortBridge
/- A list of keys deleted one behind the other: plain data. -/
namespace Go.Proofs.Ytananonjomfpkaa
open Go.RowKit
namespace Tr
structure Gone where
 t : Tr
 b : Nat
 j : Nat
 sh : Bool
def takeKey (wide : Int) (s : Gone) (k : Int) : Gone :=
 if (s.t.path k).2 then ⟨delT wide k s.t, s.b + (del (wide / 2) (s.t.weight + 1) k s.t).b, s.j + (del (wide / 2) (s.t.weight + 1) k s.t).j, s.sh || delShrinks wide k s.t⟩ else s
def gone (wide : Int) (t : Tr) (ks : List Int) : Gone := ks.foldl (takeKey wide) ⟨t, 0, 0, false⟩
def askAll (wide : Int) (t : Tr) (ks : List Int) : Bool := validB wide t && keysOk ks
def goneT (wide : Int) (t : Tr) (ks : List Int) : Tr := if askAll wide t ks = true then (gone wide t ks).t else .mk [] []
end Tr
theorem keysOk_few {ks : List Int} (h : keysOk ks = true) : ks.length ≤ 200 := by
 unfold keysOk at h
 rw [Bool.and_eq_true] at h
 exact of_decide_eq_true h.2
end Go.Proofs.Ytananonjomfpkaa
/- Where the sort of the library lies in this program. -/
namespace Go.Proofs.Ytananonjomfpkaa
open Go.Shelf Go.RowKit
def sortRen : Go.Shelf.Ren := ⟨fun | 6 => 117 | 15 => 139 | 14 => 138 | 28 => 157 | 29 => 158 | 20 => 149 | 21 => 150 | 22 => 151 | 23 => 152 | 24 => 153 | 25 => 154 | 26 => 155 | 27 => 156 | 46 => 166 | 47 => 167 | 48 => 168 | 49 => 169 | 50 => 170 | 57 => 173 | n => n, fun | 22 => 23 | 24 => 3 | 25 => 122 | 3 => 3 | 39 => 160 | 0 => 0 | 53 => 171 | 55 => 173 | 4 => 4 | 46 => 165 | 45 => 164 | 50 => 103 | 5 => 5 | 9 => 9 | 66 => 179 | 70 => 183 | 76 => 187 | 77 => 188 | n => n, fun | n => n⟩
theorem sortLay : SlLaysF.n6 Try.prog sortRen := {
 mixed := by kernel_rfl
 f6 := ⟨Try.f117.name, by decide, Try.func117.trans (congrArg some (by kernel_rfl))⟩
 f14 := ⟨Try.f138.name, by decide, Try.func138.trans (congrArg some (by kernel_rfl))⟩
 f15 := Try.func139.trans (congrArg some (by kernel_rfl))
 f20 := ⟨Try.f149.name, by decide, Try.func149.trans (congrArg some (by kernel_rfl))⟩
 f21 := ⟨Try.f150.name, by decide, Try.func150.trans (congrArg some (by kernel_rfl))⟩
 f22 := ⟨Try.f151.name, by decide, Try.func151.trans (congrArg some (by kernel_rfl))⟩
 f23 := ⟨Try.f152.name, by decide, Try.func152.trans (congrArg some (by kernel_rfl))⟩
 f24 := ⟨Try.f153.name, by decide, Try.func153.trans (congrArg some (by kernel_rfl))⟩
 f25 := ⟨Try.f154.name, by decide, Try.func154.trans (congrArg some (by kernel_rfl))⟩
 f26 := ⟨Try.f155.name, by decide, Try.func155.trans (congrArg some (by kernel_rfl))⟩
 f27 := ⟨Try.f156.name, by decide, Try.func156.trans (congrArg some (by kernel_rfl))⟩
 f28 := Try.func157.trans (congrArg some (by kernel_rfl))
 f29 := Try.func158.trans (congrArg some (by kernel_rfl))
 f46 := ⟨Try.f166.name, by decide, Try.func166.trans (congrArg some (by kernel_rfl))⟩
 f47 := Try.func167.trans (congrArg some (by kernel_rfl))
 f48 := Try.func168.trans (congrArg some (by kernel_rfl))
 f49 := ⟨Try.f169.name, by decide, Try.func169.trans (congrArg some (by kernel_rfl))⟩
 f50 := ⟨Try.f170.name, by decide, Try.func170.trans (congrArg some (by kernel_rfl))⟩
 f57 := ⟨Try.f173.name, by decide, Try.func173.trans (congrArg some (by kernel_rfl))⟩
 t0 := Try.underlying0
 a0 := Try.isAgg0
 z0 := Try.sizeOf0
 v0 := Try.zeroValue0
 t3 := Try.underlying3
 a3 := Try.isAgg3
 z3 := Try.sizeOf3
 v3 := Try.zeroValue3
 t4 := Try.underlying4
 a4 := Try.isAgg4
 z4 := Try.sizeOf4
 v4 := Try.zeroValue4
 t5 := Try.underlying5
 a5 := Try.isAgg5
 z5 := Try.sizeOf5
 v5 := Try.zeroValue5
 t9 := Try.underlying9
 a9 := Try.isAgg9
 z9 := Try.sizeOf9
 v9 := Try.zeroValue9
 t22 := Try.underlying23
 a22 := Try.isAgg23
 z22 := Try.sizeOf23
 v22 := Try.zeroValue23
 a24 := Try.isAgg3
 z24 := Try.sizeOf3
 t25 := Try.underlying122
 a25 := Try.isAgg122
 z25 := Try.sizeOf122
 v25 := Try.zeroValue122
 t39 := Try.underlying160
 a39 := Try.isAgg160
 z39 := Try.sizeOf160
 v39 := Try.zeroValue160
 t45 := Try.underlying164
 a45 := Try.isAgg164
 z45 := Try.sizeOf164
 v45 := Try.zeroValue164
 t46 := Try.underlying165
 a46 := Try.isAgg165
 z46 := Try.sizeOf165
 v46 := Try.zeroValue165
 t50 := Try.underlying103
 a50 := Try.isAgg103
 z50 := Try.sizeOf103
 v50 := Try.zeroValue103
 t53 := Try.underlying171
 a53 := Try.isAgg171
 z53 := Try.sizeOf171
 v53 := Try.zeroValue171
 t55 := Try.underlying173
 a55 := Try.isAgg173
 z55 := Try.sizeOf173
 v55 := Try.zeroValue173
 t66 := Try.underlying179
 a66 := Try.isAgg179
 z66 := Try.sizeOf179
 v66 := Try.zeroValue179
 t70 := Try.underlying183
 a70 := Try.isAgg183
 z70 := Try.sizeOf183
 v70 := Try.zeroValue183
 t76 := Try.underlying187
 a76 := Try.isAgg187
 z76 := Try.sizeOf187
 v76 := Try.zeroValue187
 t77 := Try.underlying188
 a77 := Try.isAgg188
 z77 := Try.sizeOf188
 v77 := Try.zeroValue188 }
end Go.Proofs.Ytananonjomfpkaa
/- The library's sort over a row of ints of the call's own; what compares; what leaves each once. -/
namespace Go.Proofs.Ytananonjomfpkaa
open Go.RowKit
def cmpI (x y : Int) : Int := if x < y then -1 else if y < x then 1 else 0
theorem cmp_c (x y : Int) (w : World) : Calls Try.prog 94 #[.int .i64 x, .int .i64 y] w fun e w' => e = .returned (.int .i64 (cmpI x y)) ∧ w' = w := by
 have hx : (x != x) = false := by simp
 have hy : (y != y) = false := by simp
 by_cases h1 : x < y
 · have HC := Lib.hid (show cmpI x y = -1 by simp [cmpI, h1])
   go_enter Try.func94, Try.ntmps94
   go_wp2
   go_ret
   exact ⟨by rw [HC.out]; rfl, rfl⟩
 · by_cases h2 : y < x
   · have HC := Lib.hid (show cmpI x y = 1 by simp [cmpI, h1, h2])
     go_enter Try.func94, Try.ntmps94
     go_wp2
     go_ret
     exact ⟨by rw [HC.out]; rfl, rfl⟩
   · have HC := Lib.hid (show cmpI x y = 0 by simp [cmpI, h1, h2])
     go_enter Try.func94, Try.ntmps94
     go_wp2
     go_ret
     exact ⟨by rw [HC.out]; rfl, rfl⟩
theorem eqClos_c (x y : Int) (q : Nat) (w : World) (hq : w.cell? ⟨q, 0, none⟩ = some (.func (.func 94) #[] #[])) :
   Calls Try.prog 119 #[.int .i64 x, .int .i64 y, .pointer (some ⟨q, 0, none⟩)] w fun e w' => e = .returned (.bool (decide (x = y))) ∧ w' = w := by
 have HC := Lib.hid (cmp_c x y w)
 have hz : (cmpI x y == 0) = decide (x = y) := by
   unfold cmpI
   by_cases h1 : x < y
   · simp [h1]; omega
   · by_cases h2 : y < x
     · simp [h1, h2]; omega
     · have : x = y := by omega
       simp [this]
 generalize cmpI x y = z at HC hz
 generalize decide (x = y) = b at hz ⊢
 go_enter Try.func119, Try.ntmps119
 go_wp2_with fail
 refine HC.out.mono ?_
 rintro e w' ⟨rfl, rfl⟩
 go_wp2_with fail
 go_ret
 exact ⟨rfl, rfl⟩
theorem ltI (x y : Int) : Go.Proofs.ltOf cmpI x y = decide (x < y) := by
 unfold Go.Proofs.ltOf cmpI
 by_cases h1 : x < y
 · simp [h1]
 · by_cases h2 : y < x
   · simp [h1, h2]
   · simp [h1, h2]
theorem swoI : Go.Sort.SWO (Go.Proofs.ltOf cmpI) where
 irrefl x := by rw [ltI]; simp
 trans x y z h1 h2 := by rw [ltI] at *; simp at *; omega
 ntrans x y z h1 h2 := by rw [ltI] at *; simp at *; omega
theorem totI (x y : Int) (h1 : Go.Proofs.ltOf cmpI x y = false) (h2 : Go.Proofs.ltOf cmpI y x = false) : x = y := by rw [ltI] at *; simp at *; omega
theorem leI : (fun x y : Int => !Go.Proofs.ltOf cmpI y x) = fun x y => decide (x ≤ y) := by
 funext x y
 rw [ltI]
 by_cases h : x ≤ y
 · have h' : ¬ y < x := by omega
   simp [h, h']
 · have h' : y < x := by omega
   simp [h, h']
def RowC (w : World) (g cap : Nat) (L : List Int) : Prop :=
 ∃ cur : Array Value, w.heap[g]? = some (.cells cur 3 (0, 0)) ∧ cur.size = cap ∧ L.length ≤ cap ∧ ∀ i, i < L.length → cur[i]? = some (.int .i64 (L.getD i 0))
theorem RowC.own {w : World} {lo g cap : Nat} {L : List Int} (h : RowC w g cap L) (hg : lo ≤ g) (hc : cap ≤ maxLen) : IntsOwn w lo (.slice (some ⟨g, 0, none⟩) L.length cap) L := by
 obtain ⟨cur, h1, h2, h3, h4⟩ := h
 refine ⟨by simp, .inr ⟨g, cap, cur, rfl, hg, h1, h3, hc, by omega, ?_⟩⟩
 refine List.ext_getElem? fun i => ?_
 rw [Nat.mul_one]
 by_cases hi : i < L.length
 · rw [List.getElem?_take_of_lt hi, Array.getElem?_toList, h4 i hi, List.getElem?_map, List.getElem?_eq_getElem hi, List.getD_eq_getElem?_getD, List.getElem?_eq_getElem hi]
   rfl
 · rw [List.getElem?_eq_none (by rw [List.length_take]; omega), List.getElem?_eq_none (by simp; omega)]
theorem RowC.of_own {w : World} {lo : Nat} {v : Value} {L : List Int} (h : IntsOwn w lo v L) (h0 : L.length ≠ 0) : ∃ g cap, v = .slice (some ⟨g, 0, none⟩) L.length cap ∧ lo ≤ g ∧ g < w.heap.size ∧ cap ≤ maxLen ∧ RowC w g cap L := by
 obtain ⟨h1, ⟨h2, h3⟩ | ⟨g, cap, cur, hv, hb, hg, hn, hm, hs, ht⟩⟩ := h
 · exact absurd h3 h0
 · refine ⟨g, cap, hv, hb, (Array.getElem?_eq_some_iff.1 hg).1, hm, cur, hg, by omega, hn, fun i hi => ?_⟩
   rw [Nat.mul_one] at ht
   have e : (cur.toList.take L.length)[i]? = (L.map (Value.int .i64))[i]? := by rw [ht]
   rw [List.getElem?_take_of_lt hi, Array.getElem?_toList, List.getElem?_map, List.getElem?_eq_getElem hi] at e
   rw [e, List.getD_eq_getElem?_getD, List.getElem?_eq_getElem hi]
   rfl
theorem RowC.cell {w : World} {g cap : Nat} {L : List Int} (h : RowC w g cap L) (i : Nat) (hi : i < L.length) : w.cell? ⟨g, i, none⟩ = some (.int .i64 (L.getD i 0)) ∧ w.frozen? ⟨g, i, none⟩ = false := by
 obtain ⟨cur, h1, h2, h3, h4⟩ := h
 refine ⟨by simp [World.cell?, h1, h4 i hi], by simp [World.frozen?, h1]⟩
set_option maxHeartbeats 1000000 in
theorem sort_c {w : World} {lo g cap : Nat} {L : List Int} (h : RowC w g cap L) (hg : lo ≤ g) (hgs : g < w.heap.size) (hc : cap ≤ maxLen) (hn : L.length ≤ 1048576) :
   Calls Try.prog 117 #[.slice (some ⟨g, 0, none⟩) L.length cap, .func (.func 94) #[] #[]] w fun e w' => e = .returned (.tuple #[]) ∧ RowC w' g cap (L.mergeSort fun x y => decide (x ≤ y)) ∧ Below lo w w' ∧ (∀ k, k < w.heap.size → k ≠ g → w'.heap[k]? = w.heap[k]?) := by
 have hH : Go.Sort.Holds (Value.int .i64) w g 0 L.toArray := fun j hj => by
   have hj' : j < L.length := by simpa using hj
   have := h.cell j hj'
   rw [Nat.zero_add]
   refine ⟨?_, this.2⟩
   rw [this.1]
   congr 2
   rw [List.getD_eq_getElem?_getD, List.getElem?_eq_getElem hj']
   simp [hj']
 have eg : ∀ args w, (callFunc 94 args).run Try.prog w = .ok (.enter 94 args) w := enters_of Try.func94 (by kernel_rfl) rfl
 have hcmp : Go.Proofs.CmpReads Try.prog 94 #[] (Value.int .i64) cmpI g 0 L.toArray.size w := fun m os dk _ x y => (cmp_c x y _).mono fun e w' ⟨he, hw⟩ => ⟨he, 0, by rw [hw]; rfl⟩
 have hS := Go.Proofs.Any.slices_SortFunc_total sortLay (Value.int .i64) (fun _ => rfl) cmpI swoI 94 #[] g 0 cap L.toArray w eg hcmp.lays hH hgs (by simp; omega) totI
 rw [leI] at hS
 have hsz : L.toArray.size = L.length := by simp
 rw [hsz] at hS
 refine hS.mono ?_
 rintro e w' ⟨rfl, n, os, rfl⟩
 have hl : (L.mergeSort fun x y => decide (x ≤ y)).length = L.length := List.length_mergeSort _
 rw [show L.toArray.toList = L by simp]
 obtain ⟨S, hSd⟩ : ∃ S, S = L.mergeSort fun x y => decide (x ≤ y) := ⟨_, rfl⟩
 rw [← hSd] at hl ⊢
 obtain ⟨cur, h1, h2, h3, h4⟩ := h
 have hblk : ∀ k, k < w.heap.size → (Go.Proofs.sortWorld (Value.int .i64) w g 0 n S.toArray os).heap[k]? = if g = k then (w.heap[k]?).map (Go.Sort.onCells (Go.Sort.putCells (Value.int .i64) 0 S.toArray)) else w.heap[k]? := fun k hk => by
   show ((w.heap.modify g (Go.Sort.onCells (Go.Sort.putCells (Value.int .i64) 0 S.toArray))) ++ os)[k]? = _
   rw [Array.getElem?_append_left (by simpa using hk), Array.getElem?_modify]
 have hsize : w.heap.size ≤ (Go.Proofs.sortWorld (Value.int .i64) w g 0 n S.toArray os).heap.size := by
   show w.heap.size ≤ ((w.heap.modify g (Go.Sort.onCells (Go.Sort.putCells (Value.int .i64) 0 S.toArray))) ++ os).size
   simp
 refine ⟨rfl, ⟨Go.Sort.putCells (Value.int .i64) 0 S.toArray cur, ?_, ?_, by omega, fun i hi => ?_⟩, ⟨rfl, rfl, rfl, hsize, fun k hk => ?_⟩, fun k hk hne => ?_⟩
 · rw [hblk g hgs, if_pos rfl, h1]; rfl
 · rw [← h2]; unfold Go.Sort.putCells; simp
 · have hc1 := h4 i (by omega)
   have hic : i < cur.size := (Array.getElem?_eq_some_iff.1 hc1).1
   unfold Go.Sort.putCells
   rw [Array.getElem?_mapIdx, Array.getElem?_eq_getElem hic]
   simp only [Option.map_some, Nat.zero_le, true_and, Nat.zero_add, List.size_toArray, Nat.sub_zero]
   rw [if_pos hi, List.getD_eq_getElem?_getD, List.getElem?_eq_getElem hi]
   simp [hi]
 · rw [hblk k (by omega), if_neg (by omega)]
 · rw [hblk k hk, if_neg (fun e => hne e.symm)]
theorem RowC.same {w w' : World} {g cap : Nat} {L : List Int} (h : RowC w g cap L) (hb : w'.heap[g]? = w.heap[g]?) : RowC w' g cap L := by
 obtain ⟨cur, h1, h2⟩ := h
 exact ⟨cur, hb.trans h1, h2⟩
theorem RowC.put {w : World} {g cap : Nat} {L : List Int} (h : RowC w g cap L) (i : Nat) (hi : i < L.length) (x : Int) : RowC (w.setCell ⟨g, i, none⟩ (.int .i64 x)) g cap (L.set i x) := by
 obtain ⟨cur, h1, h2, h3, h4⟩ := h
 refine ⟨cur.setIfInBounds i (.int .i64 x), set_blk (o := i) _ h1, by simpa using h2, by simpa using h3, fun j hj => ?_⟩
 rw [List.length_set] at hj
 rw [Array.getElem?_setIfInBounds, List.getD_eq_getElem?_getD, List.getElem?_set]
 by_cases e : i = j
 · subst e
   rw [if_pos rfl, if_pos (by omega), if_pos rfl, if_pos hi]
   rfl
 · rw [if_neg e, if_neg e, h4 j hj, List.getD_eq_getElem?_getD]
theorem RowC.cut {w : World} {g cap : Nat} {L : List Int} (h : RowC w g cap L) (m : Nat) (hm : m ≤ L.length) : RowC w g cap (L.take m) := by
 obtain ⟨cur, h1, h2, h3, h4⟩ := h
 refine ⟨cur, h1, h2, by rw [List.length_take]; omega, fun i hi => ?_⟩
 rw [List.length_take] at hi
 rw [h4 i (by omega), List.getD_eq_getElem?_getD, List.getD_eq_getElem?_getD, List.getElem?_take_of_lt (by omega)]
theorem RowC.wiped {g cap : Nat} {L : List Int} : ∀ (vs : List Value) (m : Nat) (w : World), L.length ≤ m → RowC w g cap L → RowC (w.setCells g m vs) g cap L ∧ Only w.heap.size g w (w.setCells g m vs)
 | [], m, w, _, h => ⟨h, Only.refl _ _ _⟩
 | v :: r, m, w, hm, h => by
   have h2 : RowC (w.setCell ⟨g, m, none⟩ v) g cap L := by
     obtain ⟨cur, h1, h2, h3, h4⟩ := h
     refine ⟨cur.setIfInBounds m v, set_blk (o := m) _ h1, by simpa using h2, h3, fun j hj => ?_⟩
     rw [Array.getElem?_setIfInBounds, if_neg (by omega)]
     exact h4 j hj
   have h3 : Only w.heap.size g w (w.setCell ⟨g, m, none⟩ v) := ⟨rfl, rfl, rfl, by simp, fun k _ hne => set_other _ _ _ _ _ hne⟩
   obtain ⟨h4, h5⟩ := RowC.wiped r (m + 1) _ (by omega) h2
   rw [World.size_setCell] at h5
   exact ⟨h4, h3.trans h5⟩
def dd (L : List Int) : Nat → List Int
 | 0 => []
 | p + 1 => if p ≠ 0 ∧ L.getD p 0 = L.getD (p - 1) 0 then dd L p else dd L p ++ [L.getD p 0]
theorem dd_one {L : List Int} {k : Nat} (h0 : k ≠ 0) (h : L.getD k 0 = L.getD (k - 1) 0) : dd L (k + 1) = dd L k := by
 rw [dd, if_pos ⟨h0, h⟩]
theorem dd_more {L : List Int} {k : Nat} (h : ¬ L.getD k 0 = L.getD (k - 1) 0) : dd L (k + 1) = dd L k ++ [L.getD k 0] := by
 rw [dd, if_neg (fun e => h e.2)]
theorem dd_facts {L : List Int} (hs : L.Pairwise (· ≤ ·)) : ∀ p, p ≤ L.length → (dd L p).Pairwise (· < ·) ∧ (∀ x, x ∈ dd L p ↔ x ∈ L.take p) ∧ (∀ x ∈ dd L p, ∀ j, p ≤ j + 1 → j < L.length → x ≤ L.getD j 0) := by
 have hle : ∀ i j, i ≤ j → j < L.length → L.getD i 0 ≤ L.getD j 0 := fun i j hij hj => by
   by_cases e : i = j
   · rw [e]; exact Int.le_refl _
   · have := List.pairwise_iff_getElem.1 hs i j (by omega) hj (by omega)
     rw [List.getD_eq_getElem?_getD, List.getD_eq_getElem?_getD, List.getElem?_eq_getElem (by omega), List.getElem?_eq_getElem hj]
     exact this
 intro p
 induction p with
 | zero => intro _; simp [dd]
 | succ p ih =>
   intro hp
   obtain ⟨h1, h2, h3⟩ := ih (by omega)
   have htk : L.take (p + 1) = L.take p ++ [L.getD p 0] := by
     rw [List.take_add_one, List.getElem?_eq_getElem (by omega), List.getD_eq_getElem?_getD, List.getElem?_eq_getElem (by omega)]
     rfl
   have hall : ∀ x ∈ dd L (p + 1), ∀ j, p + 1 ≤ j + 1 → j < L.length → x ≤ L.getD j 0 := fun x hx j hj1 hj2 => by
     rw [dd] at hx
     split at hx
     · exact h3 x hx j (by omega) hj2
     · rcases List.mem_append.1 hx with hx | hx
       · exact h3 x hx j (by omega) hj2
       · rw [List.mem_singleton.1 hx]; exact hle p j (by omega) hj2
   by_cases he : p ≠ 0 ∧ L.getD p 0 = L.getD (p - 1) 0
   · rw [dd, if_pos he] at hall ⊢
     refine ⟨h1, fun x => ?_, hall⟩
     rw [htk, List.mem_append, List.mem_singleton, h2 x]
     constructor
     · exact .inl
     · rintro (h | h)
       · exact h
       · rw [h, he.2]
         have hp1 : p - 1 < (L.take p).length := by rw [List.length_take]; omega
         have e : L.getD (p - 1) 0 = (L.take p)[p - 1] := by
           rw [List.getElem_take, List.getD_eq_getElem?_getD, List.getElem?_eq_getElem (by omega)]; rfl
         rw [e]
         exact List.getElem_mem hp1
   · rw [dd, if_neg he] at hall ⊢
     refine ⟨?_, fun x => ?_, hall⟩
     · rw [List.pairwise_append]
       refine ⟨h1, by simp, fun x hx y hy => ?_⟩
       rw [List.mem_singleton.1 hy]
       by_cases hp0 : p = 0
       · subst hp0; simp [dd] at hx
       · have h4 := h3 x hx (p - 1) (by omega) (by omega)
         have h5 := hle (p - 1) p (by omega) (by omega)
         have h6 : ¬ L.getD p 0 = L.getD (p - 1) 0 := fun e => he ⟨hp0, e⟩
         omega
     · rw [htk, List.mem_append, List.mem_append, h2 x]
end Go.Proofs.Ytananonjomfpkaa

/- Where the sort of the library lies in this program. -/
import Derived.Test.YtananonjomfpkaaQh18
import Derived.Shelf.SlSortCmp.NoneTotal
/- The contracts of the model's draws: num, l1Least, l1Most, l1Sample. -/
namespace Go.Proofs.Ytananonjomfpkaa
open Go.RowKit
structure Only (C r : Nat) (w w' : World) : Prop where
 os : w'.os = w.os
 tape : w'.tape = w.tape
 output : w'.output = w.output
 size : w.heap.size ≤ w'.heap.size
 block : ∀ k, k < C → k ≠ r → w'.heap[k]? = w.heap[k]?
theorem Only.refl (C r : Nat) (w : World) : Only C r w w := ⟨rfl, rfl, rfl, Nat.le_refl _, fun _ _ _ => rfl⟩
theorem Only.trans {C r : Nat} {a b c : World} (h : Only C r a b) (k : Only C r b c) : Only C r a c :=
 ⟨k.os.trans h.os, k.tape.trans h.tape, k.output.trans h.output, Nat.le_trans h.size k.size, fun i h1 h2 => (k.block i h1 h2).trans (h.block i h1 h2)⟩
theorem Only.below {C r B : Nat} {a b : World} (h : Only C r a b) (hB : B ≤ C) (hr : B ≤ r) : Below B a b := ⟨h.os, h.tape, h.output, h.size, fun k hk => h.block k (by omega) (by omega)⟩
theorem Only.mono {C C' r : Nat} {a b : World} (h : Only C r a b) (hC : C' ≤ C) : Only C' r a b := ⟨h.os, h.tape, h.output, h.size, fun k hk hr => h.block k (by omega) hr⟩
theorem IntsOwn.only {w w' : World} {lo C r : Nat} {v : Value} {ks : List Int} (h : IntsOwn w lo v ks) (hb : Only C r w w') (hC : w.heap.size ≤ C) (hr : r < lo) : IntsOwn w' lo v ks := by
 obtain ⟨h1, h2 | ⟨g, cap, cur, hv, hbb, hg, hrr⟩⟩ := h
 · exact ⟨h1, .inl h2⟩
 · exact ⟨h1, .inr ⟨g, cap, cur, hv, hbb, (hb.block g (by have := (Array.getElem?_eq_some_iff.1 hg).1; omega) (by omega)).trans hg, hrr⟩⟩
def Nummed (w : World) (r p : Nat) (ks : List Int) (e : Ending) (w' : World) : Prop :=
 ∃ (i m : Nat), i < ks.length ∧ e = .returned (.int .i64 (ks.getD i 0)) ∧ w' = (w.setCell ⟨r, 1, none⟩ (.int .i64 (p + 1))).drewN m
def leastN (wide : Nat) : Nat → Nat
 | 0 => 0
 | d + 1 => wide / 2 + (wide / 2 + 1) * leastN wide d
def mostN (wide : Nat) : Nat → Nat
 | 0 => 0
 | d + 1 => wide + (wide + 1) * mostN wide d
def lowN (wide d : Nat) : Nat := if 1 < d then 1 + 2 * leastN wide (d - 1) else 0
end Go.Proofs.Ytananonjomfpkaa
/- Where the sort of the library lies in this program. -/
namespace Go.Proofs.Ytananonjomfpkaa
open Go.Shelf Go.RowKit
def sortRen : Go.Shelf.Ren := ⟨fun | 6 => 117 | 15 => 139 | 14 => 138 | 28 => 157 | 29 => 158 | 20 => 149 | 21 => 150 | 22 => 151 | 23 => 152 | 24 => 153 | 25 => 154 | 26 => 155 | 27 => 156 | 46 => 166 | 47 => 167 | 48 => 168 | 49 => 169 | 50 => 170 | 57 => 173 | n => n, fun | 22 => 23 | 24 => 3 | 25 => 122 | 3 => 3 | 39 => 160 | 0 => 0 | 53 => 171 | 55 => 173 | 4 => 4 | 46 => 165 | 45 => 164 | 50 => 103 | 5 => 5 | 9 => 9 | 66 => 179 | 70 => 183 | 76 => 187 | 77 => 188 | n => n, fun | n => n⟩
theorem sortLay : SlLaysF.n6 Try.prog sortRen := {
 mixed := by kernel_rfl
 f6 := ⟨Try.f117.name, by decide, Try.func117.trans (congrArg some (by kernel_rfl))⟩
 f14 := ⟨Try.f138.name, by decide, Try.func138.trans (congrArg some (by kernel_rfl))⟩
 f15 := Try.func139.trans (congrArg some (by kernel_rfl))
 f20 := ⟨Try.f149.name, by decide, Try.func149.trans (congrArg some (by kernel_rfl))⟩
 f21 := ⟨Try.f150.name, by decide, Try.func150.trans (congrArg some (by kernel_rfl))⟩
 f22 := ⟨Try.f151.name, by decide, Try.func151.trans (congrArg some (by kernel_rfl))⟩
 f23 := ⟨Try.f152.name, by decide, Try.func152.trans (congrArg some (by kernel_rfl))⟩
 f24 := ⟨Try.f153.name, by decide, Try.func153.trans (congrArg some (by kernel_rfl))⟩
 f25 := ⟨Try.f154.name, by decide, Try.func154.trans (congrArg some (by kernel_rfl))⟩
 f26 := ⟨Try.f155.name, by decide, Try.func155.trans (congrArg some (by kernel_rfl))⟩
 f27 := ⟨Try.f156.name, by decide, Try.func156.trans (congrArg some (by kernel_rfl))⟩
 f28 := Try.func157.trans (congrArg some (by kernel_rfl))
 f29 := Try.func158.trans (congrArg some (by kernel_rfl))
 f46 := ⟨Try.f166.name, by decide, Try.func166.trans (congrArg some (by kernel_rfl))⟩
 f47 := Try.func167.trans (congrArg some (by kernel_rfl))
 f48 := Try.func168.trans (congrArg some (by kernel_rfl))
 f49 := ⟨Try.f169.name, by decide, Try.func169.trans (congrArg some (by kernel_rfl))⟩
 f50 := ⟨Try.f170.name, by decide, Try.func170.trans (congrArg some (by kernel_rfl))⟩
 f57 := ⟨Try.f173.name, by decide, Try.func173.trans (congrArg some (by kernel_rfl))⟩
 t0 := Try.underlying0
 a0 := Try.isAgg0
 z0 := Try.sizeOf0
 v0 := Try.zeroValue0
 t3 := Try.underlying3
 a3 := Try.isAgg3
 z3 := Try.sizeOf3
 v3 := Try.zeroValue3
 t4 := Try.underlying4
 a4 := Try.isAgg4
 z4 := Try.sizeOf4
 v4 := Try.zeroValue4
 t5 := Try.underlying5
 a5 := Try.isAgg5
 z5 := Try.sizeOf5
 v5 := Try.zeroValue5
 t9 := Try.underlying9
 a9 := Try.isAgg9
 z9 := Try.sizeOf9
 v9 := Try.zeroValue9
 t22 := Try.underlying23
 a22 := Try.isAgg23
 z22 := Try.sizeOf23
 v22 := Try.zeroValue23
 a24 := Try.isAgg3
 z24 := Try.sizeOf3
 t25 := Try.underlying122
 a25 := Try.isAgg122
 z25 := Try.sizeOf122
 v25 := Try.zeroValue122
 t39 := Try.underlying160
 a39 := Try.isAgg160
 z39 := Try.sizeOf160
 v39 := Try.zeroValue160
 t45 := Try.underlying164
 a45 := Try.isAgg164
 z45 := Try.sizeOf164
 v45 := Try.zeroValue164
 t46 := Try.underlying165
 a46 := Try.isAgg165
 z46 := Try.sizeOf165
 v46 := Try.zeroValue165
 t50 := Try.underlying103
 a50 := Try.isAgg103
 z50 := Try.sizeOf103
 v50 := Try.zeroValue103
 t53 := Try.underlying171
 a53 := Try.isAgg171
 z53 := Try.sizeOf171
 v53 := Try.zeroValue171
 t55 := Try.underlying173
 a55 := Try.isAgg173
 z55 := Try.sizeOf173
 v55 := Try.zeroValue173
 t66 := Try.underlying179
 a66 := Try.isAgg179
 z66 := Try.sizeOf179
 v66 := Try.zeroValue179
 t70 := Try.underlying183
 a70 := Try.isAgg183
 z70 := Try.sizeOf183
 v70 := Try.zeroValue183
 t76 := Try.underlying187
 a76 := Try.isAgg187
 z76 := Try.sizeOf187
 v76 := Try.zeroValue187
 t77 := Try.underlying188
 a77 := Try.isAgg188
 z77 := Try.sizeOf188
 v77 := Try.zeroValue188 }
end Go.Proofs.Ytananonjomfpkaa

/- The program's grownFrom: a list of keys inserted one behind the other. -/
import Derived.Test.YtgbgdanbdbojaaaSh0
import Derived.Test.YtgbgdanbdbojaaaSh15
import Derived.Test.YtgbgdanbdbojaaaSh22
import Derived.Test.YtgbgdanbdbojaaaSh23
import Derived.Test.YtgbgdanbdbojaaaSh27
import Derived.Test.YtgbgdanbdbojaaaSh17
import Derived.Test.YtgbgdanbdbojaaaProg
import Derived.Deep.Cut

/- A list of keys inserted one behind the other: plain data. -/
namespace Go.Proofs.Ytgbgdanbdbojaaa
open Go.RowKit
namespace Tr

/-- One key more: the tree, and how many nodes have been split. -/
def putKey (wide : Int) (s : Tr × Nat) (k : Int) : Tr × Nat := if (s.1.path k).2 then s else (insT wide k s.1, s.2 + insN wide k s.1)
def allIn (wide : Int) (ks : List Int) : Tr × Nat := ks.foldl (putKey wide) (.mk [] [], 0)

theorem allIn_snoc (wide : Int) {ks : List Int} {j : Nat} (h : j < ks.length) : allIn wide (ks.take (j + 1)) = putKey wide (allIn wide (ks.take j)) (ks.getD j 0) := by
  have e : ks.take (j + 1) = ks.take j ++ [ks.getD j 0] := by
    rw [List.take_add_one, List.getElem?_eq_getElem h, List.getD_eq_getElem?_getD, List.getElem?_eq_getElem h]
    rfl
  rw [e]
  unfold allIn
  rw [List.foldl_append]
  rfl

theorem leaf_valid {wide : Int} (h2 : 2 ≤ wide) (h6 : wide ≤ 6) : validB wide (.mk [] []) = true := by
  obtain ⟨n, rfl⟩ := Int.eq_ofNat_of_zero_le (show 0 ≤ wide by omega)
  have : n = 2 ∨ n = 3 ∨ n = 4 ∨ n = 5 ∨ n = 6 := by omega
  rcases this with rfl | rfl | rfl | rfl | rfl <;> decide

theorem path_has {wide k : Int} {t : Tr} (h : validB wide t = true) : (t.path k).2 = true ↔ k ∈ t.keys := by
  rw [← (someB_path k t).1 (valid_some h)]
  exact hasB_iff k t (valid_some h)

theorem insN_le (wide k : Int) (t : Tr) : insN wide k t ≤ t.weight + 1 := by
  have := grow_count wide k t
  unfold insN
  dsimp only
  split <;> omega

theorem putKey_valid {wide k : Int} {s : Tr × Nat} (h : validB wide s.1 = true) (h0 : 0 ≤ k) (h9 : k ≤ 99) : validB wide (putKey wide s k).1 = true ∧ (putKey wide s k).2 ≤ s.2 + 201 := by
  unfold putKey
  by_cases hp : (s.1.path k).2 = true
  · rw [if_pos hp]; exact ⟨h, by omega⟩
  · rw [if_neg hp]
    refine ⟨insT_valid h h0 h9 (fun hm => hp ((path_has h).2 hm)), ?_⟩
    have h1 := insN_le wide k s.1
    have h2 := valid_small h
    show s.2 + insN wide k s.1 ≤ s.2 + 201
    omega

theorem allIn_valid {wide : Int} (h2 : 2 ≤ wide) (h6 : wide ≤ 6) {ks : List Int} (hk : ∀ i, i < ks.length → inB (ks.getD i 0) 0 99 = true) :
    ∀ j, j ≤ ks.length → validB wide (allIn wide (ks.take j)).1 = true ∧ (allIn wide (ks.take j)).2 ≤ 201 * j := by
  intro j
  induction j with
  | zero => intro _; exact ⟨leaf_valid h2 h6, Nat.le_refl _⟩
  | succ j ih =>
    intro hj
    obtain ⟨hv, hn⟩ := ih (by omega)
    have hb := hk j (by omega)
    have hb' : 0 ≤ ks.getD j 0 ∧ ks.getD j 0 ≤ 99 := by simpa [inB] using hb
    obtain ⟨h3, h4⟩ := putKey_valid hv hb'.1 hb'.2
    rw [allIn_snoc wide (by omega)]
    exact ⟨h3, by omega⟩

/-- What InsertAll and SplitsOf tell. -/
def allOk (wide : Int) (ks : List Int) : Bool := inB wide 2 6 && keysOk ks
def insAllT (wide : Int) (ks : List Int) : Tr := if allOk wide ks then (allIn wide ks).1 else .mk [] []
def splitsOfB (wide : Int) (ks : List Int) : Int := if allOk wide ks then ((allIn wide ks).2 : Int) else -1
end Tr

theorem keysOk_at {ks : List Int} (h : keysOk ks = true) : (∀ i, i < ks.length → inB (ks.getD i 0) 0 99 = true) ∧ ks.length ≤ 200 := by
  unfold keysOk at h
  rw [Bool.and_eq_true, List.all_eq_true] at h
  exact ⟨fun i hi => h.1 i (by simpa using hi), of_decide_eq_true h.2⟩

theorem Tr.insAll_weight (wide : Int) (ks : List Int) : (Tr.insAllT wide ks).weight ≤ 1048576 := by
  unfold insAllT
  split
  · rename_i h
    simp only [allOk, Bool.and_eq_true] at h
    have hw : 2 ≤ wide ∧ wide ≤ 6 := by simpa [inB] using h.1
    have h1 := (allIn_valid hw.1 hw.2 (keysOk_at h.2).1 ks.length (Nat.le_refl _)).1
    rw [List.take_length] at h1
    have := valid_small h1
    omega
  · simp [weight, weights]
end Go.Proofs.Ytgbgdanbdbojaaa

/- The program's grownFrom: a list of keys inserted one behind the other. -/
namespace Go.Proofs.Ytgbgdanbdbojaaa
open Go.RowKit

theorem nd_nil {w : World} {b : Nat} (h : w.heap[b]? = some (.cells #[.slice none 0 0, .slice none 0 0] 85 (0, 0))) : Nd w (boxOf b) b (.mk [] []) := by
  have hlt := (Array.getElem?_eq_some_iff.1 h).1
  exact .mk [] [] (boxOf b) (fun _ _ => False) (fun _ _ => False) b _ _ h (RowF.nil w) (RowF.nil w) (fun x hx => by cases hx) (fun o => rfl) (fun x o hh => hh.elim) (fun x o hh => hh.elim) (fun y hy => by cases hy)
    (by simp [Apart]) (fun x o hh => by have : x = b := hh; omega)

theorem seedling_c (wide : Int) (w : World) : Calls Try.prog 87 #[.int .i64 wide] w fun e w' => ∃ gb b F, e = .returned (.pointer (some ⟨gb, 0, none⟩)) ∧ Grow w' gb wide 0 false F b (.mk [] []) ∧ (∀ x o, F x o → w.heap.size ≤ x) ∧ w.heap.size ≤ gb ∧ Below w.heap.size w w' := by
  obtain ⟨W1, hW1⟩ : ∃ W1, W1 = w.alloc (.cells #[.slice none 0 0, .slice none 0 0] 85) := ⟨_, rfl⟩
  have hs1 : W1.heap.size = w.heap.size + 1 := by rw [hW1]; simp
  have hb1 : Below w.heap.size w W1 := by rw [hW1]; exact (Below.refl _ _).alloc (Nat.le_refl _) _
  have k1 : W1.heap[w.heap.size]? = some (.cells #[.slice none 0 0, .slice none 0 0] 85 (0, 0)) := by rw [hW1, new_blk]
  obtain ⟨W2, hW2⟩ : ∃ W2, W2 = W1.alloc (.cells #[.pointer (some ⟨w.heap.size, 0, none⟩), .int .i64 wide, .int .i64 0, .bool false] 55) := ⟨_, rfl⟩
  have hb2 : Below W1.heap.size W1 W2 := by rw [hW2]; exact (Below.refl _ _).alloc (Nat.le_refl _) _
  have hg2 : GBox W2 W1.heap.size (.pointer (some ⟨w.heap.size, 0, none⟩)) wide 0 (.bool false) := by unfold GBox; rw [hW2, new_blk]; rfl
  have hn2 : Nd W2 (boxOf w.heap.size) w.heap.size (.mk [] []) := nd_nil ((hb2.block _ (by omega)).trans k1)
  have H2 := Lib.hid (And.intro (show Grow W2 W1.heap.size wide 0 false (boxOf w.heap.size) w.heap.size (.mk [] []) from ⟨hg2, hn2, fun o h => by have : W1.heap.size = w.heap.size := h; omega⟩) (hb1.trans (hb2.mono (by omega))))
  have HW := Lib.hid (And.intro hW1 hW2)
  clear hW1 hb1 k1 hW2 hb2 hg2 hn2
  go_enter Try.func87, Try.ntmps87
  go_wp2_with fail
  rw [← HW.out.1, ← hs1, ← HW.out.2]
  refine bodyPost_ret (v := .pointer (some ⟨W1.heap.size, 0, none⟩)) (by simp [results, Try.results87, go_sem]) rfl ⟨_, _, _, rfl, H2.out.1, fun x o h => by have : x = w.heap.size := h; omega, by omega, H2.out.2⟩

/-- What grownFrom leaves. -/
def GrownAllOf (w : World) (wide : Int) (ks : List Int) (e : Ending) (w' : World) : Prop :=
  (Tr.allOk wide ks = false ∧ e = .returned (.tuple #[.pointer none, .bool false]) ∧ Below w.heap.size w w') ∨
  (Tr.allOk wide ks = true ∧ ∃ (gb b : Nat) (F : Cells) (gr : Bool), e = .returned (.tuple #[.pointer (some ⟨gb, 0, none⟩), .bool true]) ∧ Grow w' gb wide (Tr.allIn wide ks).2 gr F b (Tr.allIn wide ks).1 ∧
    (∀ x o, F x o → w.heap.size ≤ x) ∧ Below w.heap.size w w')

set_option maxRecDepth 100000 in
set_option maxHeartbeats 4000000 in
theorem grownFrom_c {v : Value} {ks : List Int} (w : World) (B : Nat) (hB : B ≤ w.heap.size) (hk : IntsIn w B v ks) (wide : Int) :
    Calls Try.prog 50 #[.int .i64 wide, v] w (GrownAllOf w wide ks) := by
  have HK := Lib.hid hk
  obtain ⟨a, cap, rfl, -, hcap, -, h3⟩ := hk
  unfold maxLen at hcap
  have H3 := Lib.hid h3
  clear h3
  go_enter Try.func50, Try.ntmps50
  go_wp2_with fail
  refine (isWide_c wide _).mono ?_
  rintro e w2 ⟨rfl, rfl⟩
  cases hw : inB wide 2 6 with
  | false =>
    have HNO := Lib.hid (show Tr.allOk wide ks = false by simp [Tr.allOk, hw])
    clear hw
    go_wp2_with fail
    exact bodyPost_ret (v := .tuple #[.pointer none, .bool false]) (by simp [results, Try.results50, go_sem]) rfl (.inl ⟨HNO.out, rfl, Below.refl _ _⟩)
  | true =>
  go_wp2_with fail
  refine (areKeys_c _ B HK.out).mono ?_
  rintro e w2 ⟨rfl, rfl⟩
  cases hko : keysOk ks with
  | false =>
    have HNO := Lib.hid (show Tr.allOk wide ks = false by simp [Tr.allOk, hko])
    clear hw hko
    go_wp2_with fail
    exact bodyPost_ret (v := .tuple #[.pointer none, .bool false]) (by simp [results, Try.results50, go_sem]) rfl (.inl ⟨HNO.out, rfl, Below.refl _ _⟩)
  | true =>
  have hwd : 2 ≤ wide ∧ wide ≤ 6 := by simpa [inB] using hw
  obtain ⟨hin, h200⟩ := keysOk_at hko
  have HOK := Lib.hid (show Tr.allOk wide ks = true by simp [Tr.allOk, hw, hko])
  have HV := Lib.hid (fun j hj => Tr.allIn_valid hwd.1 hwd.2 hin j hj)
  have HWD := Lib.hid hwd
  clear hw hko hin hwd
  go_wp2_with fail
  refine (seedling_c wide _).mono ?_
  rintro e w3 ⟨gb, b0, F0, rfl, hg3, hF3, hgb, hb3⟩
  have H3G := Lib.hid (And.intro hg3 (And.intro hF3 hb3))
  clear hg3 hF3 hb3
  go_wp2_with fail
  go_loopw [8, 21] (fun s8 i wr => ∃ (j : Nat) (b : Nat) (F : Cells) (gr : Bool), j ≤ ks.length ∧ i = .int .i64 j ∧ Grow wr gb wide (Tr.allIn wide (ks.take j)).2 gr F b (Tr.allIn wide (ks.take j)).1 ∧ Hid (∀ x o, F x o → w2.heap.size ≤ x) ∧ Below w2.heap.size w2 wr) (fun _ i _ => ks.length - (intOf i).toNat)
  case atStart => exact ⟨0, b0, F0, false, Nat.zero_le _, rfl, H3G.out.1, Lib.hid H3G.out.2.1, H3G.out.2.2⟩
  case round =>
    obtain ⟨j, b, F, gr, hj, rfl, hgrow, HFl, hbel⟩ := hrel
    have HG := Lib.hid (And.intro hgrow hbel)
    by_cases hlt : j < ks.length
    · rcases H3.out with h | ⟨bb, off, rfl, hb, hat⟩
      · simp [h] at hlt
      have ha' : wr.cell? ⟨bb, off + j, none⟩ = some (.int .i64 (ks.getD j 0)) := by rw [below_cell hbel (by omega)]; exact hat j hlt
      have hv := HV.out j hj
      have hsmall := Tr.valid_small hv.1
      have HC := Lib.hid (insert_c wide (ks.getD j 0) HWD.out wr gb _ gr F b _ hgrow (Tr.valid_well hv.1) (by omega) (by omega))
      obtain ⟨x, hx⟩ : ∃ x, x = ks.getD j 0 := ⟨_, rfl⟩
      have hjl : (j : Int) < (ks.length : Int) := by omega
      rw [← hx] at ha' HC
      have HX := Lib.hid hx
      clear hgrow hbel hat hx hv
      go_wp2_with fail
      refine HC.out.mono ?_
      rintro e w5 ⟨F5, b5, rfl, hg5, hF5, hk5⟩
      have hpk : (if ((Tr.allIn wide (ks.take j)).1.path x).2 then (Tr.allIn wide (ks.take j)).2 else (Tr.allIn wide (ks.take j)).2 + Tr.insN wide x (Tr.allIn wide (ks.take j)).1) = (Tr.allIn wide (ks.take (j + 1))).2 ∧
          (if ((Tr.allIn wide (ks.take j)).1.path x).2 then (Tr.allIn wide (ks.take j)).1 else Tr.insT wide x (Tr.allIn wide (ks.take j)).1) = (Tr.allIn wide (ks.take (j + 1))).1 := by
        rw [Tr.allIn_snoc wide hlt, ← HX.out]
        unfold Tr.putKey
        split <;> exact ⟨rfl, rfl⟩
      rw [hpk.1, hpk.2] at hg5
      have H5 := Lib.hid (And.intro hg5 (And.intro hF5 hk5))
      clear hg5 hF5 hk5 hpk
      go_wp2_with fail
      go_roundw
      case rel =>
        have hs := HG.out.2.size
        refine ⟨j + 1, b5, F5, _, by omega, by go_num, H5.out.1, Lib.hid (fun x o h => ?_), ?_⟩
        · rcases H5.out.2.1 x o h with h | h
          · exact HFl.out x o h
          · omega
        · exact HG.out.2.trans (H5.out.2.2.below hs (fun x o h => by
            rcases h with h | h
            · exact HFl.out x o h
            · omega))
      case measure => simp [intOf]; omega
    · have hjn : j = ks.length := by omega
      have hjl : ¬ (j : Int) < (ks.length : Int) := by omega
      have HJN := Lib.hid hjn
      clear hjn hgrow hbel
      go_wp2_with fail
      have hg := HG.out.1
      rw [HJN.out, List.take_length] at hg
      exact bodyPost_ret (v := .tuple #[.pointer (some ⟨gb, 0, none⟩), .bool true]) (by simp [results, Try.results50, go_sem]) rfl (.inr ⟨HOK.out, gb, b, F, gr, rfl, hg, HFl.out, HG.out.2⟩)
end Go.Proofs.Ytgbgdanbdbojaaa

/- Whether the numbers of a list are keys, and not too many: the contracts of the model's l3Keys and the program's areKeys. -/
import Derived.Test.YtgbgdanbdbojaaaProg
import Derived.Test.YtgbgdanbdbojaaaSh0
import Derived.Test.YtgbgdanbdbojaaaSh1
import Derived.Test.YtgbgdanbdbojaaaL3Order
import Derived.Test.YtgbgdanbdbojaaaValid
import Derived.Test.YtgbgdanbdbojaaaSh11

/- Draws of a width and an order of keys. -/
namespace Go.Proofs.Ytgbgdanbdbojaaa
open Go.RowKit

set_option maxHeartbeats 1000000 in
theorem DrawSplitsOf_c {w : World} {B : Nat} {v : Value} {bs : List Nat} (h : BytesIn w B v bs) (w' : World) (hbw : Below B w w') (hB : B ≤ w'.heap.size) :
    Calls Try.prog 23 #[v] w' (OrderDrawn w') := by
  have HO := Lib.hid (open_c h w' hbw hB)
  obtain ⟨va, vcap, rfl, -⟩ := h
  clear hbw
  go_enter Try.func23, Try.ntmps23
  go_wp2_with fail
  refine HO.out.mono ?_
  rintro e w1 ⟨rfl, ⟨bs', hr1⟩, hb1⟩
  have hrl1 := hr1.lt
  have hs1 := hb1.size
  have HD := Lib.hid (order_c w1 w'.heap.size w'.heap.size bs' 0 hr1 (by omega))
  have H1 := Lib.hid hb1
  clear hb1 hr1
  go_wp2_with fail
  refine HD.out.mono ?_
  rintro e w2 ⟨⟨wide, v2, ks, rfl, hwd, hown, hkl⟩, ho2⟩
  obtain ⟨oa, oc, rfl⟩ := IntsOwn.shown hown
  have H2 := Lib.hid (And.intro (IntsOwn.lower hown hs1) (H1.out.trans (ho2.below (B := w'.heap.size) hs1 (Nat.le_refl _))))
  clear hown ho2
  go_wp2_with fail
  exact bodyPost_ret (v := .tuple #[.int .i64 wide, .slice oa ks.length oc]) (by simp [results, Try.results23]) rfl ⟨⟨wide, _, ks, rfl, hwd, H2.out.1, hkl⟩, H2.out.2⟩

set_option maxHeartbeats 1000000 in
theorem DrawInsertAll_c {w : World} {B : Nat} {v : Value} {bs : List Nat} (h : BytesIn w B v bs) (w' : World) (hbw : Below B w w') (hB : B ≤ w'.heap.size) :
    Calls Try.prog 34 #[v] w' (OrderDrawn w') := by
  have HO := Lib.hid (open_c h w' hbw hB)
  obtain ⟨va, vcap, rfl, -⟩ := h
  clear hbw
  go_enter Try.func34, Try.ntmps34
  go_wp2_with fail
  refine HO.out.mono ?_
  rintro e w1 ⟨rfl, ⟨bs', hr1⟩, hb1⟩
  have hrl1 := hr1.lt
  have hs1 := hb1.size
  have HD := Lib.hid (order_c w1 w'.heap.size w'.heap.size bs' 0 hr1 (by omega))
  have H1 := Lib.hid hb1
  clear hb1 hr1
  go_wp2_with fail
  refine HD.out.mono ?_
  rintro e w2 ⟨⟨wide, v2, ks, rfl, hwd, hown, hkl⟩, ho2⟩
  obtain ⟨oa, oc, rfl⟩ := IntsOwn.shown hown
  have H2 := Lib.hid (And.intro (IntsOwn.lower hown hs1) (H1.out.trans (ho2.below (B := w'.heap.size) hs1 (Nat.le_refl _))))
  clear hown ho2
  go_wp2_with fail
  exact bodyPost_ret (v := .tuple #[.int .i64 wide, .slice oa ks.length oc]) (by simp [results, Try.results34]) rfl ⟨⟨wide, _, ks, rfl, hwd, H2.out.1, hkl⟩, H2.out.2⟩
end Go.Proofs.Ytgbgdanbdbojaaa

/- Whether the numbers of a list are keys, and not too many: the contracts of the model's l3Keys and the program's areKeys. -/
namespace Go.Proofs.Ytgbgdanbdbojaaa
open Go.RowKit

def keysOk (ks : List Int) : Bool := (List.range ks.length).all (fun i => inB (ks.getD i 0) 0 99) && decide (ks.length ≤ 200)
theorem keysOk_not {ks : List Int} (i : Nat) (hi : i < ks.length) (h : inB (ks.getD i 0) 0 99 = false) : keysOk ks = false := by
  have h1 : (List.range ks.length).all (fun i => inB (ks.getD i 0) 0 99) = false := by
    rw [List.all_eq_false]
    exact ⟨i, List.mem_range.2 hi, by rw [h]; simp⟩
  unfold keysOk
  rw [h1, Bool.false_and]
theorem keysOk_of {ks : List Int} (h : ∀ i, i < ks.length → inB (ks.getD i 0) 0 99 = true) : keysOk ks = decide (ks.length ≤ 200) := by
  have h1 : (List.range ks.length).all (fun i => inB (ks.getD i 0) 0 99) = true := by
    rw [List.all_eq_true]
    exact fun i hi => h i (List.mem_range.1 hi)
  unfold keysOk
  rw [h1, Bool.true_and]

set_option maxRecDepth 100000 in
set_option maxHeartbeats 1000000 in
theorem l3Keys_c {v : Value} {ks : List Int} (w : World) (B : Nat) (hk : IntsIn w B v ks) :
    Calls Try.prog 52 #[v] w fun e w' => e = .returned (.bool (keysOk ks)) ∧ w' = w := by
  obtain ⟨a, cap, rfl, h1, h2, _, h3⟩ := hk
  unfold maxLen at h2
  have HK := Lib.hid h3
  clear h3
  go_enter Try.func52, Try.ntmps52
  go_wp2_with fail
  go_loopw [4, 7] (fun s4 i wr => ∃ (j : Nat), j ≤ ks.length ∧ i = .int .i64 j ∧ (∀ q, q < j → inB (ks.getD q 0) 0 99 = true) ∧ wr = w) (fun _ i _ => ks.length - (intOf i).toNat)
  case atStart => exact ⟨0, Nat.zero_le _, rfl, fun q h => by omega, rfl⟩
  case round =>
    obtain ⟨j, hj, rfl, hall, rfl⟩ := hrel
    have HALL := Lib.hid hall
    clear hall
    by_cases hlt : j < ks.length
    · rcases HK.out with h | ⟨b, off, rfl, hb, hat⟩
      · simp [h] at hlt
      have ha' := hat j hlt
      obtain ⟨x, hx⟩ : ∃ x, x = ks.getD j 0 := ⟨_, rfl⟩
      rw [← hx] at ha'
      have hjl : (j : Int) < (ks.length : Int) := by omega
      have HX := Lib.hid hx
      clear hx hat
      go_wp2_with fail
      refine (l1In_c x 0 99 _).mono ?_
      rintro e w5 ⟨rfl, rfl⟩
      cases hin : inB x 0 99 with
      | false =>
        have HNO := Lib.hid (keysOk_not j hlt (by rw [← HX.out]; exact hin))
        clear hin
        go_wp2_with fail
        go_ret
        exact ⟨ret_bool (by rw [HNO.out]), rfl⟩
      | true =>
        have HIN := Lib.hid hin
        clear hin
        go_wp2_with fail
        go_roundw
        case rel =>
          refine ⟨j + 1, by omega, by go_num, fun q hq => ?_, trivial⟩
          by_cases hqj : q = j
          · rw [hqj, ← HX.out]; exact HIN.out
          · exact HALL.out q (by omega)
        case measure => simp [intOf]; omega
    · have hje : j = ks.length := by omega
      have HOK := Lib.hid (keysOk_of (ks := ks) (fun q h => HALL.out q (by omega)))
      have hjl : ¬ (j : Int) < (ks.length : Int) := by omega
      clear hje
      go_wp2_with fail
      go_ret
      refine ⟨ret_bool ?_, rfl⟩
      rw [HOK.out]
      simp
      omega

set_option maxRecDepth 100000 in
set_option maxHeartbeats 1000000 in
theorem areKeys_c {v : Value} {ks : List Int} (w : World) (B : Nat) (hk : IntsIn w B v ks) :
    Calls Try.prog 86 #[v] w fun e w' => e = .returned (.bool (keysOk ks)) ∧ w' = w := by
  obtain ⟨a, cap, rfl, h1, h2, _, h3⟩ := hk
  unfold maxLen at h2
  have HK := Lib.hid h3
  clear h3
  go_enter Try.func86, Try.ntmps86
  by_cases hbig : ks.length ≤ 200
  · have hb' : ¬ ((ks.length : Int) > 200) := by omega
    have HBIG := Lib.hid hbig
    clear hbig
    go_wp2_with fail
    go_loopw [4, 10] (fun s4 i wr => ∃ (j : Nat), j ≤ ks.length ∧ i = .int .i64 j ∧ (∀ q, q < j → inB (ks.getD q 0) 0 99 = true) ∧ wr = w) (fun _ i _ => ks.length - (intOf i).toNat)
    case atStart => exact ⟨0, Nat.zero_le _, rfl, fun q h => by omega, rfl⟩
    case round =>
      obtain ⟨j, hj, rfl, hall, rfl⟩ := hrel
      have HALL := Lib.hid hall
      clear hall
      by_cases hlt : j < ks.length
      · rcases HK.out with h | ⟨b, off, rfl, hb, hat⟩
        · simp [h] at hlt
        have ha' := hat j hlt
        obtain ⟨x, hx⟩ : ∃ x, x = ks.getD j 0 := ⟨_, rfl⟩
        rw [← hx] at ha'
        have hjl : (j : Int) < (ks.length : Int) := by omega
        have HX := Lib.hid hx
        clear hx hat
        go_wp2_with fail
        refine (isKey_c x _).mono ?_
        rintro e w5 ⟨rfl, rfl⟩
        cases hin : inB x 0 99 with
        | false =>
          have HNO := Lib.hid (keysOk_not j hlt (by rw [← HX.out]; exact hin))
          clear hin
          go_wp2_with fail
          go_ret
          exact ⟨ret_bool (by rw [HNO.out]), rfl⟩
        | true =>
          have HIN := Lib.hid hin
          clear hin
          go_wp2_with fail
          go_roundw
          case rel =>
            refine ⟨j + 1, by omega, by go_num, fun q hq => ?_, trivial⟩
            by_cases hqj : q = j
            · rw [hqj, ← HX.out]; exact HIN.out
            · exact HALL.out q (by omega)
          case measure => simp [intOf]; omega
      · have HOK := Lib.hid (keysOk_of (ks := ks) (fun q h => HALL.out q (by omega)))
        have hjl : ¬ (j : Int) < (ks.length : Int) := by omega
        go_wp2_with fail
        go_ret
        exact ⟨ret_bool (by rw [HOK.out]; exact (decide_eq_true HBIG.out).symm), rfl⟩
  · have hb' : ((ks.length : Int) > 200) := by omega
    have HNO : Hid (keysOk ks = false) := Lib.hid (by unfold keysOk; rw [decide_eq_false hbig, Bool.and_false])
    clear hbig
    go_wp2_with fail
    go_ret
    exact ⟨ret_bool (by rw [HNO.out]), rfl⟩
end Go.Proofs.Ytgbgdanbdbojaaa

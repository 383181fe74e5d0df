/- The model's l8Up, both ways. -/
import Derived.Test.YticfkfjijnfcbaaDoorProg
import Derived.Test.YticfkfjijnfcbaaDoorSh0
import Derived.Test.YticfkfjijnfcbaaDoorSh8
import Derived.Test.YticfkfjijnfcbaaDoorSh9
import Derived.Test.YticfkfjijnfcbaaDoorCurWalk
import Derived.Test.YticfkfjijnfcbaaDoorSh12
import Derived.Test.YticfkfjijnfcbaaDoorClimb
namespace Go.Proofs.YticfkfjijnfcbaaDoor
open Go.RowKit

theorem IntsIn.pre {w : World} {B n cap : Nat} {a : Option Addr} {L : List Int} (h : IntsIn w B (.slice a n cap) L) (j : Nat) (hj : j ≤ L.length) : IntsIn w B (.slice a j cap) (L.take j) := by
  obtain ⟨a', c', hv, h1, h2, h3, h4⟩ := h
  simp only [Value.slice.injEq] at hv
  obtain ⟨rfl, rfl, rfl⟩ := hv
  have hl : (L.take j).length = j := by rw [List.length_take]; omega
  refine ⟨_, _, by rw [hl], by omega, h2, h3, ?_⟩
  rcases h4 with h | ⟨b, o, rfl, hb, hat⟩
  · left; rw [h]; simp
  · by_cases e : j = 0
    · left; rw [e]; rfl
    · right
      refine ⟨b, o, rfl, hb, fun i hi => ?_⟩
      rw [hat i (by omega), List.getD_eq_getElem?_getD, List.getD_eq_getElem?_getD, List.getElem?_take_of_lt (by omega)]
theorem Tr.nodeTo_pre {L : List Int} {t u : Tr} (h : Tr.nodeTo L t = some u) (j : Nat) : ∃ v, Tr.nodeTo (L.take j) t = some v := by
  have e : L = L.take j ++ L.drop j := (List.take_append_drop j L).symm
  rw [e, Tr.nodeTo_append] at h
  cases hn : Tr.nodeTo (L.take j) t with
  | none => rw [hn] at h; cases h
  | some v => exact ⟨v, rfl⟩

/-- What the model answers: a cursor, and whether there is one. -/
def Told (w' : World) (r : List Int × Int × Bool) (e : Ending) (w'' : World) : Prop :=
  ∃ v, e = .returned (.tuple #[.agg #[v, .int .i64 r.2.1], .bool r.2.2]) ∧ IntsOwn w'' w'.heap.size v r.1 ∧ Below w'.heap.size w' w''
theorem Told.none {w' w'' : World} (h : Below w'.heap.size w' w'') : Told w' ([], 0, false) (.returned (.tuple #[.agg #[.slice none 0 0, .int .i64 0], .bool false])) w'' :=
  ⟨_, rfl, ⟨rfl, .inl ⟨rfl, rfl⟩⟩, h⟩
theorem IntsIn.shown {w : World} {B : Nat} {v : Value} {L : List Int} (h : IntsIn w B v L) : ∃ a c, v = .slice a L.length c := by
  obtain ⟨a, c, hv, -⟩ := h
  exact ⟨a, c, hv⟩

set_option maxHeartbeats 2000000 in
set_option maxRecDepth 100000 in
theorem l8UpF_c {w : World} {B : Nat} {kv cv v : Value} {t u : Tr} {L : List Int} (ht : TreeIn w B kv cv t) (hk : IntsIn w B v L) (hn : Tr.nodeTo L t = some u) (hsm : t.weight ≤ 1048576) (hlen : L.length ≤ 1048576) (w' : World) (hbw : Below B w w') (hB : B ≤ w'.heap.size) :
    Calls Tryd.prog 71 #[.agg #[kv, cv], v, .bool false] w' (Told w' (Tr.upF t L)) := by
  have HT := Lib.hid ht
  have HPRE := Lib.hid (fun j => Tr.nodeTo_pre hn j)
  have HSM := Lib.hid (Tr.nodeTo_small L hn).2
  obtain ⟨g1, g2, g3, g4, g5, g6, rfl, rfl⟩ := ht.slices
  have hk' := (hk.later hbw (Nat.le_refl _)).wider hB
  obtain ⟨va, vcap, rfl⟩ := hk.shown
  obtain ⟨W2, hW2⟩ : ∃ W2, W2 = (w'.alloc (.cells #[.slice g1 g2 g3, .slice g4 g5 g6] 33)).alloc (.cells #[.slice none 0 0, .int .i64 0] 28) := ⟨_, rfl⟩
  have hb2 : Below w'.heap.size w' W2 := by rw [hW2]; exact ((Below.refl _ _).alloc (Nat.le_refl _) _).alloc (by simp) _
  have hs2 : W2.heap.size = w'.heap.size + 2 := by rw [hW2]; simp
  have k0 : W2.heap[w'.heap.size]? = some (.cells #[.slice g1 g2 g3, .slice g4 g5 g6] 33 (0, 0)) := by rw [hW2, old_blk _ _ _ (by simp), new_blk]
  have k1 : W2.heap[w'.heap.size + 1]? = some (.cells #[.slice none 0 0, .int .i64 0] 28 (0, 0)) := by
    rw [hW2, show w'.heap.size + 1 = (w'.alloc (.cells #[.slice g1 g2 g3, .slice g4 g5 g6] 33)).heap.size by simp, new_blk]
  have hin2 : IntsIn W2 W2.heap.size (.slice va L.length vcap) (L.take L.length) := by rw [List.take_length]; exact (hk'.later hb2 (Nat.le_refl _)).wider (by omega)
  have HB2 := Lib.hid (And.intro hb2 (And.intro k0 (And.intro k1 hin2)))
  have HBW := Lib.hid hbw
  have HW2 := Lib.hid hW2
  clear ht hk hk' hbw hW2 hb2 hs2 k0 k1 hin2 hn
  go_enter Tryd.func71, Tryd.ntmps71
  go_wp2_with fail
  rw [← HW2.out]
  go_loopw [1, 8, 9, 10, 11] (fun v1 _ _ _ _ wr => ∃ (j : Nat) (pa : Option Addr) (pc : Nat), j ≤ L.length ∧ v1 = .slice pa j pc ∧ Hid (IntsIn wr wr.heap.size (.slice pa j pc) (L.take j)) ∧ Hid (∀ i, j ≤ i → i < L.length → (Tr.stopF t L) i = false) ∧
    wr.heap[w'.heap.size]? = some (.cells #[.slice g1 g2 g3, .slice g4 g5 g6] 33 (0, 0)) ∧ wr.heap[w'.heap.size + 1]? = some (.cells #[.slice none 0 0, .int .i64 0] 28 (0, 0)) ∧ Below w'.heap.size w' wr) (fun v1 _ _ _ _ _ => match v1 with | .slice _ n _ => n | _ => 0)
  case atStart => exact ⟨L.length, va, vcap, Nat.le_refl _, rfl, Lib.hid HB2.out.2.2.2, Lib.hid (fun i h1 h2 => by omega), HB2.out.2.1, HB2.out.2.2.1, HB2.out.1⟩
  case round =>
    obtain ⟨j, pa, pc, hj, rfl, HIN, HNO, hx0, hx1, hbel⟩ := hrel
    obtain ⟨x1, x2, x3, x4⟩ := box2 hx0
    obtain ⟨y1, y2, y3, y4⟩ := box2 hx1
    have hsz1 : w'.heap.size + 1 < wr.heap.size := (Array.getElem?_eq_some_iff.1 hx1).1
    have HX := Lib.hid (And.intro hx0 (And.intro hx1 hbel))
    cases j with
    | zero =>
      have hup : Tr.upF t L = ([], 0, false) := by
        unfold Tr.upF Tr.upTo
        rw [climb_none (fun i _ h2 => HNO.out i (Nat.zero_le _) h2), if_pos rfl]
      have HU := Lib.hid hup
      clear hx0 hx1 hbel hup
      go_wp2_with fail
      have d := set_blk (o := 1) (.int .i64 0) (set_blk (o := 0) (.slice none 0 0) HX.out.2.1)
      obtain ⟨t1, t2, -, -⟩ := box2 d
      refine bodyPost_ret (v := .tuple #[.agg #[.slice none 0 0, .int .i64 0], .bool false]) (by simp [results, Tryd.results71, go_sem, t1, t2]) rfl ?_
      rw [HU.out]
      exact Told.none ((HX.out.2.2.setCell (by show w'.heap.size ≤ w'.heap.size + 1; omega) _).setCell (by show w'.heap.size ≤ w'.heap.size + 1; omega) _)
    | succ j =>
      have hin := HIN.out
      have hl1 : (L.take (j + 1)).length = j + 1 := by rw [List.length_take]; omega
      have hlj : (L.take j).length = j := by rw [List.length_take]; omega
      have hpre := hin.pre j (by omega)
      rw [List.take_take, show min j (j + 1) = j by omega] at hpre
      obtain ⟨_, _, hve, hcap1, hcap2, -, h3⟩ := hin
      simp only [Value.slice.injEq] at hve
      obtain ⟨rfl, -, rfl⟩ := hve
      rcases h3 with h | ⟨pb, po, rfl, hpb, hat⟩
      · rw [h] at hl1; simp at hl1
      have ha := hat j (by omega)
      obtain ⟨x, hx⟩ : ∃ x, x = L.getD j 0 := ⟨_, rfl⟩
      have hge : (L.take (j + 1)).getD j 0 = x := by
        rw [hx, List.getD_eq_getElem?_getD, List.getD_eq_getElem?_getD, List.getElem?_take_of_lt (by omega)]
      rw [hge] at ha
      unfold maxLen at hcap2
      have hpos : (0 : Int) < (j : Int) + 1 := by omega
      have hdec : IntKind.i64.wrap ((j : Int) + 1 - 1) = (j : Int) := by rw [IntKind.wrap_i64]; omega
      have hsub : (j : Int) + 1 - 1 = (j : Int) := by omega
      have hj1 : (j : Int) < (j : Int) + 1 := by omega
      have hj0 : (0 : Int) ≤ (j : Int) := by omega
      have hjc : (j : Int) ≤ (pc : Int) := by omega
      obtain ⟨W5, hW5⟩ : ∃ W5, W5 = wr.alloc (.cells #[] 3) := ⟨_, rfl⟩
      have hs5 : W5.heap.size = wr.heap.size + 1 := by rw [hW5]; simp
      have hb5 : Below wr.heap.size wr W5 := by rw [hW5]; exact (Below.refl _ _).alloc (Nat.le_refl _) _
      have h05 : IntsOwn (wr.alloc (.cells #[] 3)) wr.heap.size (.slice (some ⟨wr.heap.size, 0, none⟩) 0 0) [] := World.ownsRow_made wr #[] 0 (Nat.le_refl _) (by unfold maxLen; omega) rfl
      have hsr5 : IntsAt (wr.alloc (.cells #[] 3)) (.slice (some ⟨pb, po, none⟩) j pc) (L.take j) := by rw [← hW5]; exact IntsIn.at (hpre.later hb5 (Nat.le_refl _))
      have hlo5 : wr.heap.size ≤ (wr.alloc (.cells #[] 3)).heap.size := by simp
      have HLN5 : Hid (([] : List Int).length + (L.take j).length ≤ 17592186044416) := Lib.hid (by rw [hlj]; simp; omega)
      have H05 := Lib.hid h05
      have HSR5 := Lib.hid hsr5
      have HW5 := Lib.hid hW5
      have HG := Lib.hid (And.intro hx (And.intro hb5 hs5))
      clear hx0 hx1 hbel hat hpre hge h05 hsr5 hW5 hb5 hs5 hx hl1 hpb hcap1
      go_wp2_with (at_builtin; refine wpList_append_ints rfl _ _ rfl wr.heap.size _ _ [] (L.take j) rfl H05.out rfl HSR5.out HLN5.out hlo5 ?_; intro v6 w6 hown6 hbel6 _ hsh6; obtain ⟨a6, c6, rfl⟩ := hsh6; rw [← HW5.out] at hbel6; have hz6 : W5.heap.size ≤ w6.heap.size := hbel6.size; rw [List.nil_append, hlj] at hown6; have hl6 : ([] ++ L.take j).length = j := (by rw [List.nil_append]; exact hlj); rw [hl6]; have e0 := (hbel6.block w'.heap.size (by omega)).trans ((HG.out.2.1.block w'.heap.size (by omega)).trans HX.out.1); obtain ⟨z1, z2, z3, z4⟩ := box2 e0; have H6 := Lib.hid (And.intro hown6 (And.intro hbel6 e0)); clear hown6 hbel6 e0 hl6)
      have hszr : w'.heap.size ≤ wr.heap.size := by omega
      have hs6 : wr.heap.size ≤ w6.heap.size := by have := HG.out.2.2; omega
      have hb6 : Below w'.heap.size w' w6 := HX.out.2.2.trans ((HG.out.2.1.mono hszr).trans (H6.out.2.1.mono hszr))
      have HB6 := Lib.hid hb6
      obtain ⟨nu, hnu⟩ := HPRE.out j
      have HNU := Lib.hid hnu
      clear hb6 hnu
      refine (l8Node_c ((HT.out.later (HBW.out.trans (HB6.out.mono hB)) (Nat.le_refl _)).wider (by omega)) (H6.out.1.in) w6 (Below.refl _ _) (Nat.le_refl _)).mono ?_
      rintro e w7 ⟨hno, hb7⟩
      rcases hno with ⟨⟨uk, uc⟩, ku, cu, hnd, rfl, hu⟩ | ⟨hnone, rfl⟩
      case inr => rw [HNU.out] at hnone; cases hnone
      have hs7 := hb7.size
      obtain ⟨ca, ccap, kvs, cvs, rfl, hik, -, -, -, -⟩ := hu.parts
      obtain ⟨ka, kcap, rfl, hk1, hk2, -⟩ := hik
      unfold maxLen at hk2
      have hown7 : IntsIn w7 w7.heap.size (.slice a6 j c6) (L.take j) := (H6.out.1.in.later hb7 (Nat.le_refl _)).wider hs7
      have e0 := (hb7.block w'.heap.size (by omega)).trans H6.out.2.2
      have e1 : w7.heap[w'.heap.size + 1]? = some (.cells #[.slice none 0 0, .int .i64 0] 28 (0, 0)) :=
        (hb7.block (w'.heap.size + 1) (by omega)).trans ((H6.out.2.1.block (w'.heap.size + 1) (by omega)).trans ((HG.out.2.1.block (w'.heap.size + 1) (by omega)).trans HX.out.2.1))
      obtain ⟨W8, hW8⟩ : ∃ W8, W8 = w7.alloc (.cells #[.slice ka uk.length kcap, .slice ca uc.length ccap] 33) := ⟨_, rfl⟩
      have hs8 : W8.heap.size = w7.heap.size + 1 := by rw [hW8]; simp
      have hb8 : Below w7.heap.size w7 W8 := by rw [hW8]; exact (Below.refl _ _).alloc (Nat.le_refl _) _
      have d2 : W8.heap[w7.heap.size]? = some (.cells #[.slice ka uk.length kcap, .slice ca uc.length ccap] 33 (0, 0)) := by rw [hW8, new_blk]
      have d0 := (hb8.block w'.heap.size (by omega)).trans e0
      have d1 := (hb8.block (w'.heap.size + 1) (by omega)).trans e1
      have hin8 := (hown7.later hb8 (Nat.le_refl _)).wider (by omega : w7.heap.size ≤ W8.heap.size)
      have hbel8 : Below w'.heap.size w' W8 := HB6.out.trans ((hb7.mono (by omega)).trans (hb8.mono (by omega)))
      have hst : (Tr.stopF t L) j = decide (x < (uk.length : Int)) := by
        unfold Tr.stopF
        rw [← HG.out.1, Tr.lenAt_of hnd]; rfl
      have H8 := Lib.hid (And.intro d0 (And.intro d1 (And.intro hin8 (And.intro hbel8 (And.intro hst ((H6.out.1.later hb7 (Nat.le_refl _)).later hb8 (Nat.le_refl _)))))))
      have HW8 := Lib.hid hW8
      obtain ⟨q1, q2, q3, q4⟩ := box2 d1
      obtain ⟨r1, r2, r3, r4⟩ := box2 d2
      rw [hW8] at q1 q2 q3 q4 r1 r2 r3 r4
      have hsmx := HSM.out j (by omega)
      rw [← HG.out.1] at hsmx
      clear d0 d1 d2 e0 e1 hown7 hin8 hbel8 hb7 hb8 hW8 hu hnd hst x1 x2 x3 x4 y1 y2 y3 y4 z1 z2 z3 z4 ha
      by_cases hcond : x < (uk.length : Int)
      · go_wp2_with fail
        rw [← HW8.out]
        have d := set_blk (o := 1) (.int .i64 x) (set_blk (o := 0) (.slice a6 j c6) H8.out.2.1)
        obtain ⟨t1, t2, -, -⟩ := box2 d
        have hcl := climb_here (P := (Tr.stopF t L)) (n := L.length) (by omega) HNO.out (by rw [H8.out.2.2.2.2.1]; exact decide_eq_true hcond)
        have hup : Tr.upF t L = (L.take j, x - 0, true) := by
          unfold Tr.upF Tr.upTo
          rw [hcl, if_neg (by omega), Nat.add_sub_cancel, ← HG.out.1]
        refine bodyPost_ret (v := .tuple #[.agg #[.slice a6 j c6, .int .i64 x], .bool true]) (by simp [results, Tryd.results71, go_sem, t1, t2]) rfl ⟨.slice a6 j c6, by rw [hup]; simp, ?_, ?_⟩
        · rw [hup]
          exact (H8.out.2.2.2.2.2.only (w' := (W8.setCell ⟨w'.heap.size + 1, 0, none⟩ (.slice a6 j c6)).setCell ⟨w'.heap.size + 1, 1, none⟩ (.int .i64 x)) (C := W8.heap.size) (r := w'.heap.size + 1) ⟨rfl, rfl, rfl, by simp, fun k _ hne => by rw [set_other _ _ _ _ _ hne, set_other _ _ _ _ _ hne]⟩ (Nat.le_refl _) (by omega)).lower (by omega)
        · exact (H8.out.2.2.2.1.setCell (by show w'.heap.size ≤ w'.heap.size + 1; omega) _).setCell (by show w'.heap.size ≤ w'.heap.size + 1; omega) _
      · go_wp2_with fail
        rw [← HW8.out]
        go_roundw
        case rel =>
          refine ⟨j, a6, c6, by omega, rfl, Lib.hid H8.out.2.2.1, Lib.hid (fun i h1 h2 => ?_), H8.out.1, H8.out.2.1, H8.out.2.2.2.1⟩
          by_cases e : i = j
          · rw [e, H8.out.2.2.2.2.1]; exact decide_eq_false (by omega)
          · exact HNO.out i (by omega) h2
        case measure => simp

set_option maxHeartbeats 2000000 in
set_option maxRecDepth 100000 in
theorem l8UpB_c {w : World} {B : Nat} {kv cv v : Value} {t u : Tr} {L : List Int} (ht : TreeIn w B kv cv t) (hk : IntsIn w B v L) (hn : Tr.nodeTo L t = some u) (hsm : t.weight ≤ 1048576) (hlen : L.length ≤ 1048576) (w' : World) (hbw : Below B w w') (hB : B ≤ w'.heap.size) :
    Calls Tryd.prog 71 #[.agg #[kv, cv], v, .bool true] w' (Told w' (Tr.upB L)) := by
  have HT := Lib.hid ht
  have HPRE := Lib.hid (fun j => Tr.nodeTo_pre hn j)
  have HSM := Lib.hid (Tr.nodeTo_small L hn).2
  obtain ⟨g1, g2, g3, g4, g5, g6, rfl, rfl⟩ := ht.slices
  have hk' := (hk.later hbw (Nat.le_refl _)).wider hB
  obtain ⟨va, vcap, rfl⟩ := hk.shown
  obtain ⟨W2, hW2⟩ : ∃ W2, W2 = (w'.alloc (.cells #[.slice g1 g2 g3, .slice g4 g5 g6] 33)).alloc (.cells #[.slice none 0 0, .int .i64 0] 28) := ⟨_, rfl⟩
  have hb2 : Below w'.heap.size w' W2 := by rw [hW2]; exact ((Below.refl _ _).alloc (Nat.le_refl _) _).alloc (by simp) _
  have hs2 : W2.heap.size = w'.heap.size + 2 := by rw [hW2]; simp
  have k0 : W2.heap[w'.heap.size]? = some (.cells #[.slice g1 g2 g3, .slice g4 g5 g6] 33 (0, 0)) := by rw [hW2, old_blk _ _ _ (by simp), new_blk]
  have k1 : W2.heap[w'.heap.size + 1]? = some (.cells #[.slice none 0 0, .int .i64 0] 28 (0, 0)) := by
    rw [hW2, show w'.heap.size + 1 = (w'.alloc (.cells #[.slice g1 g2 g3, .slice g4 g5 g6] 33)).heap.size by simp, new_blk]
  have hin2 : IntsIn W2 W2.heap.size (.slice va L.length vcap) (L.take L.length) := by rw [List.take_length]; exact (hk'.later hb2 (Nat.le_refl _)).wider (by omega)
  have HB2 := Lib.hid (And.intro hb2 (And.intro k0 (And.intro k1 hin2)))
  have HBW := Lib.hid hbw
  have HW2 := Lib.hid hW2
  clear ht hk hk' hbw hW2 hb2 hs2 k0 k1 hin2 hn
  go_enter Tryd.func71, Tryd.ntmps71
  go_wp2_with fail
  rw [← HW2.out]
  go_loopw [1, 8, 9, 10, 11] (fun v1 _ _ _ _ wr => ∃ (j : Nat) (pa : Option Addr) (pc : Nat), j ≤ L.length ∧ v1 = .slice pa j pc ∧ Hid (IntsIn wr wr.heap.size (.slice pa j pc) (L.take j)) ∧ Hid (∀ i, j ≤ i → i < L.length → (Tr.stopB L) i = false) ∧
    wr.heap[w'.heap.size]? = some (.cells #[.slice g1 g2 g3, .slice g4 g5 g6] 33 (0, 0)) ∧ wr.heap[w'.heap.size + 1]? = some (.cells #[.slice none 0 0, .int .i64 0] 28 (0, 0)) ∧ Below w'.heap.size w' wr) (fun v1 _ _ _ _ _ => match v1 with | .slice _ n _ => n | _ => 0)
  case atStart => exact ⟨L.length, va, vcap, Nat.le_refl _, rfl, Lib.hid HB2.out.2.2.2, Lib.hid (fun i h1 h2 => by omega), HB2.out.2.1, HB2.out.2.2.1, HB2.out.1⟩
  case round =>
    obtain ⟨j, pa, pc, hj, rfl, HIN, HNO, hx0, hx1, hbel⟩ := hrel
    obtain ⟨x1, x2, x3, x4⟩ := box2 hx0
    obtain ⟨y1, y2, y3, y4⟩ := box2 hx1
    have hsz1 : w'.heap.size + 1 < wr.heap.size := (Array.getElem?_eq_some_iff.1 hx1).1
    have HX := Lib.hid (And.intro hx0 (And.intro hx1 hbel))
    cases j with
    | zero =>
      have hup : Tr.upB L = ([], 0, false) := by
        unfold Tr.upB Tr.upTo
        rw [climb_none (fun i _ h2 => HNO.out i (Nat.zero_le _) h2), if_pos rfl]
      have HU := Lib.hid hup
      clear hx0 hx1 hbel hup
      go_wp2_with fail
      have d := set_blk (o := 1) (.int .i64 0) (set_blk (o := 0) (.slice none 0 0) HX.out.2.1)
      obtain ⟨t1, t2, -, -⟩ := box2 d
      refine bodyPost_ret (v := .tuple #[.agg #[.slice none 0 0, .int .i64 0], .bool false]) (by simp [results, Tryd.results71, go_sem, t1, t2]) rfl ?_
      rw [HU.out]
      exact Told.none ((HX.out.2.2.setCell (by show w'.heap.size ≤ w'.heap.size + 1; omega) _).setCell (by show w'.heap.size ≤ w'.heap.size + 1; omega) _)
    | succ j =>
      have hin := HIN.out
      have hl1 : (L.take (j + 1)).length = j + 1 := by rw [List.length_take]; omega
      have hlj : (L.take j).length = j := by rw [List.length_take]; omega
      have hpre := hin.pre j (by omega)
      rw [List.take_take, show min j (j + 1) = j by omega] at hpre
      obtain ⟨_, _, hve, hcap1, hcap2, -, h3⟩ := hin
      simp only [Value.slice.injEq] at hve
      obtain ⟨rfl, -, rfl⟩ := hve
      rcases h3 with h | ⟨pb, po, rfl, hpb, hat⟩
      · rw [h] at hl1; simp at hl1
      have ha := hat j (by omega)
      obtain ⟨x, hx⟩ : ∃ x, x = L.getD j 0 := ⟨_, rfl⟩
      have hge : (L.take (j + 1)).getD j 0 = x := by
        rw [hx, List.getD_eq_getElem?_getD, List.getD_eq_getElem?_getD, List.getElem?_take_of_lt (by omega)]
      rw [hge] at ha
      unfold maxLen at hcap2
      have hpos : (0 : Int) < (j : Int) + 1 := by omega
      have hdec : IntKind.i64.wrap ((j : Int) + 1 - 1) = (j : Int) := by rw [IntKind.wrap_i64]; omega
      have hsub : (j : Int) + 1 - 1 = (j : Int) := by omega
      have hj1 : (j : Int) < (j : Int) + 1 := by omega
      have hj0 : (0 : Int) ≤ (j : Int) := by omega
      have hjc : (j : Int) ≤ (pc : Int) := by omega
      obtain ⟨W5, hW5⟩ : ∃ W5, W5 = wr.alloc (.cells #[] 3) := ⟨_, rfl⟩
      have hs5 : W5.heap.size = wr.heap.size + 1 := by rw [hW5]; simp
      have hb5 : Below wr.heap.size wr W5 := by rw [hW5]; exact (Below.refl _ _).alloc (Nat.le_refl _) _
      have h05 : IntsOwn (wr.alloc (.cells #[] 3)) wr.heap.size (.slice (some ⟨wr.heap.size, 0, none⟩) 0 0) [] := World.ownsRow_made wr #[] 0 (Nat.le_refl _) (by unfold maxLen; omega) rfl
      have hsr5 : IntsAt (wr.alloc (.cells #[] 3)) (.slice (some ⟨pb, po, none⟩) j pc) (L.take j) := by rw [← hW5]; exact IntsIn.at (hpre.later hb5 (Nat.le_refl _))
      have hlo5 : wr.heap.size ≤ (wr.alloc (.cells #[] 3)).heap.size := by simp
      have HLN5 : Hid (([] : List Int).length + (L.take j).length ≤ 17592186044416) := Lib.hid (by rw [hlj]; simp; omega)
      have H05 := Lib.hid h05
      have HSR5 := Lib.hid hsr5
      have HW5 := Lib.hid hW5
      have HG := Lib.hid (And.intro hx (And.intro hb5 hs5))
      clear hx0 hx1 hbel hat hpre hge h05 hsr5 hW5 hb5 hs5 hx hl1 hpb hcap1
      go_wp2_with (at_builtin; refine wpList_append_ints rfl _ _ rfl wr.heap.size _ _ [] (L.take j) rfl H05.out rfl HSR5.out HLN5.out hlo5 ?_; intro v6 w6 hown6 hbel6 _ hsh6; obtain ⟨a6, c6, rfl⟩ := hsh6; rw [← HW5.out] at hbel6; have hz6 : W5.heap.size ≤ w6.heap.size := hbel6.size; rw [List.nil_append, hlj] at hown6; have hl6 : ([] ++ L.take j).length = j := (by rw [List.nil_append]; exact hlj); rw [hl6]; have e0 := (hbel6.block w'.heap.size (by omega)).trans ((HG.out.2.1.block w'.heap.size (by omega)).trans HX.out.1); obtain ⟨z1, z2, z3, z4⟩ := box2 e0; have H6 := Lib.hid (And.intro hown6 (And.intro hbel6 e0)); clear hown6 hbel6 e0 hl6)
      have hszr : w'.heap.size ≤ wr.heap.size := by omega
      have hs6 : wr.heap.size ≤ w6.heap.size := by have := HG.out.2.2; omega
      have hb6 : Below w'.heap.size w' w6 := HX.out.2.2.trans ((HG.out.2.1.mono hszr).trans (H6.out.2.1.mono hszr))
      have HB6 := Lib.hid hb6
      obtain ⟨nu, hnu⟩ := HPRE.out j
      have HNU := Lib.hid hnu
      clear hb6 hnu
      refine (l8Node_c ((HT.out.later (HBW.out.trans (HB6.out.mono hB)) (Nat.le_refl _)).wider (by omega)) (H6.out.1.in) w6 (Below.refl _ _) (Nat.le_refl _)).mono ?_
      rintro e w7 ⟨hno, hb7⟩
      rcases hno with ⟨⟨uk, uc⟩, ku, cu, hnd, rfl, hu⟩ | ⟨hnone, rfl⟩
      case inr => rw [HNU.out] at hnone; cases hnone
      have hs7 := hb7.size
      obtain ⟨ca, ccap, kvs, cvs, rfl, hik, -, -, -, -⟩ := hu.parts
      obtain ⟨ka, kcap, rfl, hk1, hk2, -⟩ := hik
      unfold maxLen at hk2
      have hown7 : IntsIn w7 w7.heap.size (.slice a6 j c6) (L.take j) := (H6.out.1.in.later hb7 (Nat.le_refl _)).wider hs7
      have e0 := (hb7.block w'.heap.size (by omega)).trans H6.out.2.2
      have e1 : w7.heap[w'.heap.size + 1]? = some (.cells #[.slice none 0 0, .int .i64 0] 28 (0, 0)) :=
        (hb7.block (w'.heap.size + 1) (by omega)).trans ((H6.out.2.1.block (w'.heap.size + 1) (by omega)).trans ((HG.out.2.1.block (w'.heap.size + 1) (by omega)).trans HX.out.2.1))
      obtain ⟨W8, hW8⟩ : ∃ W8, W8 = w7.alloc (.cells #[.slice ka uk.length kcap, .slice ca uc.length ccap] 33) := ⟨_, rfl⟩
      have hs8 : W8.heap.size = w7.heap.size + 1 := by rw [hW8]; simp
      have hb8 : Below w7.heap.size w7 W8 := by rw [hW8]; exact (Below.refl _ _).alloc (Nat.le_refl _) _
      have d2 : W8.heap[w7.heap.size]? = some (.cells #[.slice ka uk.length kcap, .slice ca uc.length ccap] 33 (0, 0)) := by rw [hW8, new_blk]
      have d0 := (hb8.block w'.heap.size (by omega)).trans e0
      have d1 := (hb8.block (w'.heap.size + 1) (by omega)).trans e1
      have hin8 := (hown7.later hb8 (Nat.le_refl _)).wider (by omega : w7.heap.size ≤ W8.heap.size)
      have hbel8 : Below w'.heap.size w' W8 := HB6.out.trans ((hb7.mono (by omega)).trans (hb8.mono (by omega)))
      have hst : (Tr.stopB L) j = decide (0 < x) := by
        unfold Tr.stopB
        rw [← HG.out.1]
      have H8 := Lib.hid (And.intro d0 (And.intro d1 (And.intro hin8 (And.intro hbel8 (And.intro hst ((H6.out.1.later hb7 (Nat.le_refl _)).later hb8 (Nat.le_refl _)))))))
      have HW8 := Lib.hid hW8
      obtain ⟨q1, q2, q3, q4⟩ := box2 d1
      obtain ⟨r1, r2, r3, r4⟩ := box2 d2
      rw [hW8] at q1 q2 q3 q4 r1 r2 r3 r4
      have hsmx := HSM.out j (by omega)
      rw [← HG.out.1] at hsmx
      have hwx : 0 < x → IntKind.i64.wrap (x - 1) = x - 1 := fun h => by rw [IntKind.wrap_i64]; omega
      have HWX := Lib.hid hwx
      clear d0 d1 d2 e0 e1 hown7 hin8 hbel8 hb7 hb8 hW8 hu hnd hst x1 x2 x3 x4 y1 y2 y3 y4 z1 z2 z3 z4 ha
      by_cases hcond : 0 < x
      · go_wp2_with fail
        rw [← HW8.out]
        have d := set_blk (o := 1) (.int .i64 (x - 1)) (set_blk (o := 0) (.slice a6 j c6) H8.out.2.1)
        obtain ⟨t1, t2, -, -⟩ := box2 d
        have hcl := climb_here (P := (Tr.stopB L)) (n := L.length) (by omega) HNO.out (by rw [H8.out.2.2.2.2.1]; exact decide_eq_true hcond)
        have hup : Tr.upB L = (L.take j, x - 1, true) := by
          unfold Tr.upB Tr.upTo
          rw [hcl, if_neg (by omega), Nat.add_sub_cancel, ← HG.out.1]
        refine bodyPost_ret (v := .tuple #[.agg #[.slice a6 j c6, .int .i64 (x - 1)], .bool true]) (by simp [results, Tryd.results71, go_sem, t1, t2]) rfl ⟨.slice a6 j c6, by rw [hup], ?_, ?_⟩
        · rw [hup]
          exact (H8.out.2.2.2.2.2.only (w' := (W8.setCell ⟨w'.heap.size + 1, 0, none⟩ (.slice a6 j c6)).setCell ⟨w'.heap.size + 1, 1, none⟩ (.int .i64 (x - 1))) (C := W8.heap.size) (r := w'.heap.size + 1) ⟨rfl, rfl, rfl, by simp, fun k _ hne => by rw [set_other _ _ _ _ _ hne, set_other _ _ _ _ _ hne]⟩ (Nat.le_refl _) (by omega)).lower (by omega)
        · exact (H8.out.2.2.2.1.setCell (by show w'.heap.size ≤ w'.heap.size + 1; omega) _).setCell (by show w'.heap.size ≤ w'.heap.size + 1; omega) _
      · go_wp2_with fail
        rw [← HW8.out]
        go_roundw
        case rel =>
          refine ⟨j, a6, c6, by omega, rfl, Lib.hid H8.out.2.2.1, Lib.hid (fun i h1 h2 => ?_), H8.out.1, H8.out.2.1, H8.out.2.2.2.1⟩
          by_cases e : i = j
          · rw [e, H8.out.2.2.2.2.1]; exact decide_eq_false (by omega)
          · exact HNO.out i (by omega) h2
        case measure => simp
end Go.Proofs.YticfkfjijnfcbaaDoor

/- A tree is valid just if evenDepth tells a depth and the keys ascend: plain data. -/
import Derived.Test.YticfkfjijnfcbaaDoorProg
import Derived.Test.YticfkfjijnfcbaaDoorSh0
import Derived.Deep.QuietTactic
import Derived.BigQuiet
import Derived.StillTailTactics
import Derived.WalkSmall
import Derived.Test.YticfkfjijnfcbaaDoorKeys
import Derived.Test.YticfkfjijnfcbaaDoorSh2
import Derived.Test.YticfkfjijnfcbaaDoorSh3

/- The program's evenDepth: plain data and contract. -/
namespace Go.Proofs.YticfkfjijnfcbaaDoor
open Go.RowKit

/-- One more than what all kids have in common, if they do and it is not 0. -/
def evenF (ds : List Nat) : Nat := if ds.getD 0 0 ≠ 0 ∧ ∀ x ∈ ds, x = ds.getD 0 0 then ds.getD 0 0 + 1 else 0

/-- How deep a tree is, if its nodes are as they have to be and it is no deeper than told; 0 if not. -/
def Tr.evenD (wide : Int) : Nat → Int → Tr → Nat
  | 0, _, _ => 0
  | l + 1, least, .mk ks cs =>
    if (ks.length : Int) < least ∨ wide < (ks.length : Int) then 0
    else if cs.length = 0 then 1
    else if cs.length ≠ ks.length + 1 then 0
    else evenF (cs.map (Tr.evenD wide l (wide / 2)))

theorem evenF_no {ds : List Nat} (j : Nat) (hj : j < ds.length) (h : ds[j] = 0 ∨ ds[j] ≠ ds.getD 0 0) : evenF ds = 0 := by
  unfold evenF
  rw [if_neg]
  rintro ⟨h1, h2⟩
  have h3 := h2 ds[j] (List.getElem_mem hj)
  rcases h with h | h
  · exact h1 (by rw [← h3, h])
  · exact h h3

theorem evenF_yes {ds : List Nat} {d : Nat} (h0 : 0 < ds.length) (hd : d ≠ 0) (h : ∀ i (hi : i < ds.length), ds[i] = d) : evenF ds = d + 1 := by
  have e0 : ds.getD 0 0 = d := by have h1 := h 0 h0; simpa [List.getD_eq_getElem?_getD, h0] using h1
  unfold evenF
  rw [e0, if_pos]
  refine ⟨hd, fun x hx => ?_⟩
  obtain ⟨i, hi, rfl⟩ := List.getElem_of_mem hx
  exact h i hi

theorem Tr.evenD_le (wide : Int) : ∀ (l : Nat) (least : Int) (t : Tr), t.evenD wide l least ≤ l
  | 0, _, _ => by simp [Tr.evenD]
  | l + 1, least, .mk ks cs => by
    unfold Tr.evenD
    split
    · omega
    split
    · omega
    split
    · omega
    · unfold evenF
      split
      · rename_i _ h _ _
        cases cs with
        | nil => exact absurd rfl h
        | cons c r =>
          have := Tr.evenD_le wide l (wide / 2) c
          simp; omega
      · omega

set_option maxRecDepth 100000 in
set_option maxHeartbeats 2000000 in
theorem evenDepth_c (wide : Int) (hw1 : 2 ≤ wide) (hw2 : wide ≤ 6) : ∀ (l : Nat) (_hl : l ≤ 6) {w : World} {B : Nat} {kv cv : Value} {t : Tr} (_ht : TreeIn w B kv cv t) (_hwt : t.weight ≤ 1048576) (b o : Nat) (least : Int),
    -9223372036854775808 ≤ least → least ≤ 9223372036854775807 → w.cell? ⟨b, o, none⟩ = some kv → w.cell? ⟨b, o + 1, none⟩ = some cv → b < B → ∀ w', Below B w w' → B ≤ w'.heap.size →
    Calls Tryd.prog 132 #[.pointer (some ⟨b, o, none⟩), .int .i64 least, .int .i64 wide, .int .i64 l] w' fun e w'' => e = .returned (.int .i64 (t.evenD wide l least)) ∧ Below w'.heap.size w' w'' := by
  intro l
  induction l with
  | zero =>
    intro hl w B kv cv t ht hwt b o least hl1 hl2 c1 c2 hbB w' hbw hB
    obtain ⟨a5, n5, m5, a6, n6, m6, rfl, rfl⟩ := ht.slices
    have d1 : w'.cell? ⟨b, o, none⟩ = some _ := (below_cell hbw hbB).trans c1
    have d2 : w'.cell? ⟨b, o + 1, none⟩ = some _ := (below_cell hbw hbB).trans c2
    have hfin : t.evenD wide 0 least = 0 := rfl
    clear c1 c2
    go_enter Tryd.func132, Tryd.ntmps132
    go_wp2_with fail
    go_quiet (fail)
    go_wp2_with fail
    go_ret
    exact ⟨ret_int (by rw [hfin]; rfl), below_drewN (Below.refl _ _) _⟩
  | succ l ih =>
    intro hl w B kv cv t ht hwt b o least hl1 hl2 c1 c2 hbB w' hbw hB
    cases t with
    | mk ks cs =>
      obtain ⟨a, cap, kvs, cvs, rfl, hk, hlen, hcap, hat, hkids⟩ := ht.parts
      obtain ⟨ka, kcap, rfl, _⟩ := hk
      simp only [Tr.weight] at hwt
      have hl0 := Tr.length_le_weights cs
      have d1 : w'.cell? ⟨b, o, none⟩ = some _ := (below_cell hbw hbB).trans c1
      have d2 : w'.cell? ⟨b, o + 1, none⟩ = some _ := (below_cell hbw hbB).trans c2
      obtain ⟨L, hL⟩ : ∃ L : Int, L = ((l + 1 : Nat) : Int) := ⟨_, rfl⟩
      rw [← hL]
      have hL1 : 1 ≤ L := by omega
      have hL6 : L ≤ 6 := by omega
      have hLne : (L == 0) = false := by simp; omega
      have HL := Lib.hid hL
      have HAT := Lib.hid hat
      have HKI := Lib.hid hkids
      have IH := Lib.hid ih
      have HBW := Lib.hid hbw
      clear c1 c2 hL hat hkids ih hbw ht
      by_cases g1 : (ks.length : Int) < least
      · have hfin : Tr.evenD wide (l + 1) least (.mk ks cs) = 0 := by simp only [Tr.evenD]; rw [if_pos (.inl g1)]
        have HF := Lib.hid hfin
        clear hfin
        go_enter Tryd.func132, Tryd.ntmps132
        go_wp2_with fail
        go_quiet (fail)
        go_wp2_with fail
        go_ret
        exact ⟨ret_int (by rw [HF.out]; rfl), below_drewN (Below.refl _ _) _⟩
      have b1 : decide ((ks.length : Int) < least) = false := by simpa using g1
      by_cases g2 : wide < (ks.length : Int)
      · have hfin : Tr.evenD wide (l + 1) least (.mk ks cs) = 0 := by simp only [Tr.evenD]; rw [if_pos (.inr g2)]
        have HF := Lib.hid hfin
        clear hfin
        go_enter Tryd.func132, Tryd.ntmps132
        go_wp2_with fail
        go_quiet (fail)
        go_wp2_with fail
        go_ret
        exact ⟨ret_int (by rw [HF.out]; rfl), below_drewN (Below.refl _ _) _⟩
      have b2 : decide (wide < (ks.length : Int)) = false := by simpa using g2
      by_cases g3 : cs.length = 0
      · have hfin : Tr.evenD wide (l + 1) least (.mk ks cs) = 1 := by simp only [Tr.evenD]; rw [if_neg (by omega), if_pos g3]
        have HF := Lib.hid hfin
        have g3' : ((cs.length : Int) == 0) = true := by simp [g3]
        clear hfin
        go_enter Tryd.func132, Tryd.ntmps132
        go_wp2_with fail
        go_quiet (fail)
        go_wp2_with fail
        go_ret
        exact ⟨ret_int (by rw [HF.out]; rfl), below_drewN (Below.refl _ _) _⟩
      have g3' : ((cs.length : Int) == 0) = false := by rw [beq_eq_false_iff_ne]; omega
      by_cases g4 : cs.length ≠ ks.length + 1
      · have hfin : Tr.evenD wide (l + 1) least (.mk ks cs) = 0 := by simp only [Tr.evenD]; rw [if_neg (by omega), if_neg g3, if_pos g4]
        have HF := Lib.hid hfin
        have g4' : ((cs.length : Int) != (ks.length : Int) + 1) = true := by simp; omega
        clear hfin g4
        go_enter Tryd.func132, Tryd.ntmps132
        go_wp2_with fail
        go_quiet (fail)
        go_wp2_with fail
        go_ret
        exact ⟨ret_int (by rw [HF.out]; rfl), below_drewN (Below.refl _ _) _⟩
      have g4' : ((cs.length : Int) != (ks.length : Int) + 1) = false := by simp; omega
      have hfin : Tr.evenD wide (l + 1) least (.mk ks cs) = evenF (cs.map (Tr.evenD wide l (wide / 2))) := by simp only [Tr.evenD]; rw [if_neg (by omega), if_neg g3, if_neg g4]
      have HF := Lib.hid hfin
      clear hfin g4
      go_enter Tryd.func132, Tryd.ntmps132
      go_wp2_with fail
      go_quiet (fail)
      go_wp2_with fail
      obtain ⟨ds, hds⟩ : ∃ ds, ds = cs.map (Tr.evenD wide l (wide / 2)) := ⟨_, rfl⟩
      have hdl : ds.length = cs.length := by rw [hds]; simp
      have hdi : ∀ i (h : i < cs.length), ds.getD i 0 = Tr.evenD wide l (wide / 2) cs[i] := fun i h => by rw [hds]; simp [List.getD_eq_getElem?_getD, h]
      have HDS := Lib.hid hds
      have HDL := Lib.hid hdl
      have HDI := Lib.hid hdi
      obtain ⟨D, hD⟩ : ∃ D, D = ds.getD 0 0 := ⟨_, rfl⟩
      have HD := Lib.hid hD
      have hD6 : D ≤ 6 := by rw [hD, hdi 0 (by omega)]; have := Tr.evenD_le wide l (wide / 2) cs[0]; omega
      clear hds hdl hdi hD
      go_loopw [11, 47] (fun d i wr => ∃ (j E : Nat), j ≤ cs.length ∧ i = .int .i64 j ∧ d = .int .i64 E ∧ (j = 0 → E = 0) ∧ (0 < j → E = D) ∧ (∀ i', i' < cs.length → i' < j → ds.getD i' 0 = D ∧ D ≠ 0) ∧ Below w'.heap.size w' wr) (fun _ i _ => cs.length - (intOf i).toNat)
      case atStart => exact ⟨0, 0, Nat.zero_le _, rfl, rfl, fun _ => rfl, fun h => by omega, fun i _ h => by omega, below_drewN (Below.refl _ _) _⟩
      case round =>
        obtain ⟨j, E, hj, rfl, rfl, hE0, hE1, hall, hbel⟩ := hrel
        have HE0 := Lib.hid hE0
        have HE1 := Lib.hid hE1
        have HALL := Lib.hid hall
        have HBEL := Lib.hid hbel
        by_cases hlt : j < cs.length
        · rcases HAT.out with h | ⟨b2, off, rfl, hb, hat⟩
          · omega
          obtain ⟨ha, hc⟩ := hat j hlt
          have e2 : wr.cell? ⟨b, o + 1, none⟩ = some _ := (below_cell hbel (by omega)).trans d2
          have HA := Lib.hid ha
          have HC := Lib.hid hc
          clear ha hc hat hE0 hE1 hall hbel d1 d2
          go_wp2_with fail
          have hLl : L - 1 = (l : Int) := by have := HL.out; omega
          rw [hLl]
          clear hLl
          refine (IH.out (by omega) (HKI.out j hlt) (by have := Tr.weight_get_le cs j hlt; omega) b2 (off + j * 2) (wide / 2) (by omega) (by omega) HA.out HC.out hb wr (HBW.out.trans (HBEL.out.mono hB)) (by have := HBEL.out.size; omega)).mono ?_
          rintro e w1 ⟨rfl, hb1⟩
          have hX := HDI.out j hlt
          generalize Tr.evenD wide l (wide / 2) cs[j] = X at hX ⊢
          have hX6 : X ≤ 6 := by
            have := HDI.out j hlt
            have h2 := Tr.evenD_le wide l (wide / 2) cs[j]
            omega
          have HX := Lib.hid hX
          have hb1' := HBEL.out.trans (hb1.mono HBEL.out.size)
          have HB1 := Lib.hid hb1'
          clear hX hb1 hb1'
          by_cases x0 : X = 0
          · have x0' : ((X : Int) == 0) = true := by simp [x0]
            go_wp2_with fail
            go_ret
            refine ⟨ret_int ?_, HB1.out⟩
            rw [HF.out, ← HDS.out, evenF_no j (by rw [HDL.out]; exact hlt) (.inl ?_)]
            · rfl
            · have := HX.out; rw [List.getD_eq_getElem?_getD] at this; simp [HDL.out, hlt] at this; omega
          have x0' : ((X : Int) == 0) = false := by rw [beq_eq_false_iff_ne]; omega
          by_cases j0 : j = 0
          · have j0' : decide ((0 : Int) < (j : Int)) = false := by simp [j0]
            go_wp2_with fail
            go_roundw
            case rel => 
              refine ⟨j + 1, X, by omega, by go_num, rfl, fun h => by omega, fun _ => ?_, fun i hi hij => ?_, HB1.out⟩
              · rw [HD.out, ← HX.out, j0]
              · obtain rfl : i = j := by omega
                have h1 := HX.out
                have h2 := HD.out
                subst j0
                omega
            case measure => simp [intOf]; omega
          have j0' : decide ((0 : Int) < (j : Int)) = true := by simp; omega
          by_cases xe : X = E
          · have xe' : ((X : Int) != (E : Int)) = false := by simp [xe]
            go_wp2_with fail
            go_roundw
            case rel =>
              refine ⟨j + 1, X, by omega, by go_num, by rw [xe], fun h => by omega, fun _ => ?_, fun i hi hij => ?_, HB1.out⟩
              · rw [xe, HE1.out (by omega)]
              · by_cases hij' : i = j
                · subst hij'
                  have h1 := HX.out
                  have h2 := HE1.out (by omega)
                  omega
                · exact HALL.out i hi (by omega)
            case measure => simp [intOf]; omega
          · have xe' : ((X : Int) != (E : Int)) = true := by rw [bne_iff_ne]; omega
            go_wp2_with fail
            go_ret
            refine ⟨ret_int ?_, HB1.out⟩
            rw [HF.out, ← HDS.out, evenF_no j (by rw [HDL.out]; exact hlt) (.inr ?_)]
            · rfl
            · have h1 := HX.out
              have h2 := HE1.out (by omega)
              have h3 := HD.out
              rw [List.getD_eq_getElem?_getD] at h1
              simp only [HDL.out, hlt, List.getElem?_eq_getElem, Option.getD_some] at h1
              omega
        · obtain rfl : j = cs.length := by omega
          clear hE0 hE1 hall hbel
          have hE : E ≤ 6 := by have := HE1.out (by omega); omega
          go_wp2_with fail
          go_ret
          refine ⟨ret_int ?_, HBEL.out⟩
          have h0 := HALL.out 0 (by omega) (by omega)
          rw [HF.out, ← HDS.out, evenF_yes (d := D) (by rw [HDL.out]; omega) h0.2 (fun i hi => ?_)]
          · have := HE1.out (by omega); omega
          · have hi' : i < cs.length := by rw [HDL.out] at hi; exact hi
            have := (HALL.out i hi' hi').1
            rw [List.getD_eq_getElem?_getD] at this
            simpa [hi] using this
end Go.Proofs.YticfkfjijnfcbaaDoor

/- A tree is valid just if evenDepth tells a depth and the keys ascend: plain data. -/
namespace Go.Proofs.YticfkfjijnfcbaaDoor
open Go.RowKit

theorem nodesB_parts {wide least d : Int} {ks : List Int} {cs : List Tr} (h : Tr.nodesB wide least d (.mk ks cs) = true) :
    (least ≤ (ks.length : Int) ∧ (ks.length : Int) ≤ wide) ∧ ((cs.length = 0 ∧ d = 1) ∨ (cs.length ≠ 0 ∧ d ≠ 1 ∧ cs.length = ks.length + 1 ∧ ks.length ≠ 0 ∧ ∀ i (hi : i < cs.length), Tr.nodesB wide (wide / 2) (d - 1) cs[i] = true)) := by
  simp only [Tr.nodesB, Bool.and_eq_true, Bool.or_eq_true, inB, decide_eq_true_eq, beq_iff_eq, Bool.not_eq_true', decide_eq_false_iff_not] at h
  obtain ⟨⟨h1, h2⟩, h3⟩ := h
  refine ⟨h1, ?_⟩
  by_cases h0 : cs.length = 0
  · left
    refine ⟨h0, ?_⟩
    simp only [h0, decide_true] at h2
    exact of_decide_eq_true h2.symm
  · right
    rcases h3 with h3 | ⟨⟨h3, h4⟩, h5⟩
    · exact absurd h3 h0
    · refine ⟨h0, fun e => ?_, h3, h4, fun i hi => Tr.nodesAllB_get h5 i hi⟩
      simp [h0, e] at h2

theorem nodesB_leaf {wide least : Int} {ks : List Int} {cs : List Tr} (h1 : least ≤ (ks.length : Int)) (h2 : (ks.length : Int) ≤ wide) (h0 : cs.length = 0) : Tr.nodesB wide least 1 (.mk ks cs) = true := by
  simp [Tr.nodesB, inB, h1, h2, h0]

theorem nodesB_inner {wide least d : Int} {ks : List Int} {cs : List Tr} (h1 : least ≤ (ks.length : Int)) (h2 : (ks.length : Int) ≤ wide) (hd : d ≠ 1) (hl : cs.length = ks.length + 1) (hk : ks.length ≠ 0)
    (hc : ∀ i (hi : i < cs.length), Tr.nodesB wide (wide / 2) (d - 1) cs[i] = true) : Tr.nodesB wide least d (.mk ks cs) = true := by
  have h0 : cs.length ≠ 0 := by omega
  have hall := Tr.nodesAllB_of hc
  have e0 : decide (cs.length = 0) = false := decide_eq_false h0
  have e1 : decide (d = 1) = false := decide_eq_false hd
  have e2 : decide (ks.length = 0) = false := decide_eq_false hk
  have e3 : decide (cs.length = ks.length + 1) = true := decide_eq_true hl
  simp only [Tr.nodesB, inB, h1, h2, decide_true, Bool.and_true, e0, e1, e2, e3, hall, Bool.not_false]
  rfl

theorem depths_same {cs : List Tr} {D : Nat} (h0 : cs.length ≠ 0) (h : ∀ i (hi : i < cs.length), cs[i].depth = D) : Tr.depths cs = D := by
  induction cs with
  | nil => exact absurd rfl h0
  | cons t r ih =>
    have h1 := h 0 (by simp)
    simp only [List.getElem_cons_zero] at h1
    simp only [Tr.depths, h1]
    by_cases hr : r.length = 0
    · have : r = [] := List.length_eq_zero_iff.1 hr
      subst this; simp [Tr.depths]
    · rw [ih hr (fun i hi => by have := h (i + 1) (by simpa using hi); simpa using this)]
      simp

theorem even_yes {ds : List Nat} (h : evenF ds ≠ 0) : ds.getD 0 0 ≠ 0 ∧ (∀ i (hi : i < ds.length), ds[i] = ds.getD 0 0) ∧ evenF ds = ds.getD 0 0 + 1 := by
  unfold evenF at h ⊢
  split at h
  · rename_i hc
    rw [if_pos hc]
    exact ⟨hc.1, fun i hi => hc.2 _ (List.getElem_mem hi), rfl⟩
  · exact absurd rfl h

theorem even_nodes (wide : Int) (hw : 2 ≤ wide) : ∀ (l : Nat) (least : Int) (t : Tr), (∀ ks cs, t = .mk ks cs → cs.length ≠ 0 → 1 ≤ least) → t.evenD wide l least ≠ 0 →
    t.nodesB wide least (t.evenD wide l least) = true ∧ t.depth = t.evenD wide l least
  | 0, _, _, _, h => absurd rfl h
  | l + 1, least, .mk ks cs, hin, h => by
    have hu : Tr.evenD wide (l + 1) least (.mk ks cs) = if (ks.length : Int) < least ∨ wide < (ks.length : Int) then 0 else if cs.length = 0 then 1 else if cs.length ≠ ks.length + 1 then 0 else evenF (cs.map (Tr.evenD wide l (wide / 2))) := by simp only [Tr.evenD]
    rw [hu] at h ⊢
    by_cases g1 : (ks.length : Int) < least ∨ wide < (ks.length : Int)
    · rw [if_pos g1] at h; exact absurd rfl h
    rw [if_neg g1] at h ⊢
    by_cases g2 : cs.length = 0
    · rw [if_pos g2]
      have : cs = [] := List.length_eq_zero_iff.1 g2
      subst this
      exact ⟨nodesB_leaf (by omega) (by omega) rfl, by simp [Tr.depth, Tr.depths]⟩
    rw [if_neg g2] at h ⊢
    by_cases g3 : cs.length ≠ ks.length + 1
    · rw [if_pos g3] at h; exact absurd rfl h
    rw [if_neg g3] at h ⊢
    obtain ⟨y1, y2, y3⟩ := even_yes h
    generalize hD : (cs.map (Tr.evenD wide l (wide / 2))).getD 0 0 = D at y1 y2 y3
    have hk : ∀ i (hi : i < cs.length), cs[i].evenD wide l (wide / 2) = D := fun i hi => by
      have := y2 i (by simpa using hi)
      simpa using this
    have hkid : ∀ i (hi : i < cs.length), cs[i].nodesB wide (wide / 2) D = true ∧ cs[i].depth = D := fun i hi => by
      have := even_nodes wide hw l (wide / 2) cs[i] (fun _ _ _ _ => by omega) (by rw [hk i hi]; exact y1)
      rw [hk i hi] at this
      exact this
    have hl1 := hin ks cs rfl g2
    rw [y3]
    refine ⟨nodesB_inner (by omega) (by omega) (by omega) (by omega) (by omega) (fun i hi => ?_), ?_⟩
    · have := (hkid i hi).1
      rw [show ((D + 1 : Nat) : Int) - 1 = (D : Int) by omega]
      exact this
    · simp only [Tr.depth]
      rw [depths_same g2 (fun i hi => (hkid i hi).2)]

theorem nodesB_pos (wide : Int) : ∀ (n : Nat) (least d : Int) (t : Tr), t.weight ≤ n → t.nodesB wide least d = true → 1 ≤ d := by
  intro n
  induction n with
  | zero =>
    intro least d t hn h
    cases t with
    | mk ks cs =>
      rcases (nodesB_parts h).2 with ⟨_, h2⟩ | ⟨h0, h2, h3, h4, h5⟩
      · omega
      · simp only [Tr.weight] at hn; have := Tr.length_le_weights cs; omega
  | succ n ih =>
    intro least d t hn h
    cases t with
    | mk ks cs =>
      rcases (nodesB_parts h).2 with ⟨_, h2⟩ | ⟨h0, h2, h3, h4, h5⟩
      · omega
      · have hk := h5 0 (by omega)
        simp only [Tr.weight] at hn
        have := Tr.weight_get_le cs 0 (by omega)
        have := ih _ _ _ (by omega) hk
        omega

theorem nodes_even (wide : Int) (hw : 2 ≤ wide) : ∀ (l : Nat) (least d : Int) (t : Tr), t.nodesB wide least d = true → d ≤ l → (t.evenD wide l least : Int) = d
  | 0, least, d, t, h, hd => by have := nodesB_pos wide _ least d t (Nat.le_refl _) h; omega
  | l + 1, least, d, .mk ks cs, h, hd => by
    have hu : Tr.evenD wide (l + 1) least (.mk ks cs) = if (ks.length : Int) < least ∨ wide < (ks.length : Int) then 0 else if cs.length = 0 then 1 else if cs.length ≠ ks.length + 1 then 0 else evenF (cs.map (Tr.evenD wide l (wide / 2))) := by simp only [Tr.evenD]
    obtain ⟨⟨h1, h2⟩, h3⟩ := nodesB_parts h
    rw [hu, if_neg (by omega)]
    rcases h3 with ⟨h3, h4⟩ | ⟨h3, h4, h5, h6, h7⟩
    · rw [if_pos h3, h4]; rfl
    · rw [if_neg h3, if_neg (by omega)]
      have hp := nodesB_pos wide _ _ _ _ (Nat.le_refl _) (h7 0 (by omega))
      rw [evenF_yes (d := (d - 1).toNat) (by simp; omega) (by omega) (fun i hi => ?_)]
      · omega
      · have hi' : i < cs.length := by simpa using hi
        have := nodes_even wide hw l (wide / 2) (d - 1) cs[i] (h7 i hi') (by omega)
        simp only [List.getElem_map]
        omega

theorem lens_ge {cs : List Tr} {m : Nat} (h : ∀ i (hi : i < cs.length), m ≤ cs[i].keys.length + 1) : cs.length * m ≤ Tr.lens (Tr.keyss cs) + cs.length := by
  induction cs with
  | nil => simp
  | cons t r ih =>
    have h1 := h 0 (by simp)
    have h2 := ih (fun i hi => by have := h (i + 1) (by simpa using hi); simpa using this)
    simp only [List.getElem_cons_zero] at h1
    simp only [Tr.keyss, Tr.lens, List.length_cons, Nat.add_mul, Nat.one_mul]
    omega

theorem keys_len (ks : List Int) (cs : List Tr) : (Tr.mk ks cs).keys.length = Tr.lens (Tr.keyss cs) + ks.length := by
  have hk := Tr.length_keyss cs
  rw [Tr.keys, Tr.upto_length, List.take_of_length_le (by omega), List.take_of_length_le (by omega)]

theorem nodes_keys (wide : Int) (hw : 2 ≤ wide) : ∀ (e : Nat) (least d : Int) (t : Tr), d = (e : Int) + 1 → (1 ≤ least ∨ 1 ≤ e) → t.nodesB wide least d = true → 2 ^ (e + 1) ≤ t.keys.length + 1
  | 0, least, d, .mk ks cs, hd, hl, h => by
    obtain ⟨⟨h1, h2⟩, h3⟩ := nodesB_parts h
    rw [keys_len]
    rcases hl with hl | hl
    · omega
    · omega
  | e + 1, least, d, .mk ks cs, hd, hl, h => by
    obtain ⟨⟨h1, h2⟩, h3⟩ := nodesB_parts h
    rcases h3 with ⟨h3, h4⟩ | ⟨h3, h4, h5, h6, h7⟩
    · omega
    · have hkid : ∀ i (hi : i < cs.length), 2 ^ (e + 1) ≤ cs[i].keys.length + 1 := fun i hi => nodes_keys wide hw e (wide / 2) (d - 1) cs[i] (by omega) (.inl (by omega)) (h7 i hi)
      have h8 := lens_ge hkid
      have h9 : 2 * 2 ^ (e + 1) ≤ cs.length * 2 ^ (e + 1) := Nat.mul_le_mul_right _ (by omega)
      rw [keys_len]
      have : 2 ^ (e + 1 + 1) = 2 * 2 ^ (e + 1) := by rw [Nat.pow_succ, Nat.mul_comm]
      omega

theorem okAt_get {ks : List Int} (h : sortedB ks = true) (i : Nat) (hi : i < ks.length) : okAt ks i = true := by
  simp only [sortedB, List.all_eq_true, List.mem_range] at h
  exact h i hi

theorem sorted_ge {ks : List Int} (h : sortedB ks = true) : ∀ i, i < ks.length → (i : Int) ≤ ks.getD i 0 ∧ ks.getD i 0 ≤ 99 := by
  intro i
  induction i with
  | zero =>
    intro hi
    have h1 := okAt_get h 0 hi
    simp only [okAt, inB, Bool.and_eq_true, decide_eq_true_eq] at h1
    omega
  | succ i ih =>
    intro hi
    have h0 := ih (by omega)
    have h1 := okAt_get h (i + 1) hi
    simp only [okAt, inB, Bool.and_eq_true, decide_eq_true_eq, Bool.or_eq_true, Nat.add_sub_cancel] at h1
    omega

theorem sorted_len {ks : List Int} (h : sortedB ks = true) : ks.length ≤ 100 := by
  by_cases h0 : ks.length ≤ 100
  · exact h0
  · have := sorted_ge h 100 (by omega)
    omega

theorem nodesB_root {wide d : Int} {ks : List Int} {cs : List Tr} : Tr.nodesB wide 0 d (.mk ks cs) = Tr.nodesB wide ((min cs.length 1 : Nat) : Int) d (.mk ks cs) := by
  rw [Bool.eq_iff_iff]
  constructor
  · intro h
    obtain ⟨⟨h1, h2⟩, h3⟩ := nodesB_parts h
    rcases h3 with ⟨h3, rfl⟩ | ⟨h3, h4, h5, h6, h7⟩
    · exact nodesB_leaf (by omega) h2 h3
    · exact nodesB_inner (by omega) h2 h4 h5 h6 h7
  · intro h
    obtain ⟨⟨h1, h2⟩, h3⟩ := nodesB_parts h
    rcases h3 with ⟨h3, rfl⟩ | ⟨h3, h4, h5, h6, h7⟩
    · exact nodesB_leaf (by omega) h2 h3
    · exact nodesB_inner (by omega) h2 h4 h5 h6 h7

theorem even_valid {wide : Int} (h1 : 2 ≤ wide) (h2 : wide ≤ 6) (ks : List Int) (cs : List Tr) :
    Tr.validB wide (.mk ks cs) = (decide (0 < Tr.evenD wide 6 ((min cs.length 1 : Nat) : Int) (.mk ks cs)) && sortedB (Tr.mk ks cs).keys) := by
  unfold Tr.validB
  rw [inB_true h1 h2, Bool.true_and, nodesB_root]
  cases hs : sortedB (Tr.mk ks cs).keys with
  | false => simp
  | true =>
    rw [Bool.and_true, Bool.and_true, Bool.eq_iff_iff, decide_eq_true_eq]
    have hlen := sorted_len hs
    have hin : ∀ ks' cs', Tr.mk ks cs = .mk ks' cs' → cs'.length ≠ 0 → (1 : Int) ≤ ((min cs.length 1 : Nat) : Int) := fun ks' cs' e h => by cases e; omega
    constructor
    · intro h
      have hp := nodesB_pos wide _ _ _ _ (Nat.le_refl _) h
      have hd : (Tr.mk ks cs).depth ≤ 6 := by
        by_cases hd : (Tr.mk ks cs).depth ≤ 6
        · exact hd
        · have := nodes_keys wide h1 ((Tr.mk ks cs).depth - 1) _ _ _ (by omega) (.inr (by omega)) h
          have h64 : 2 ^ 7 ≤ 2 ^ ((Tr.mk ks cs).depth - 1 + 1) := Nat.pow_le_pow_right (by omega) (by omega)
          omega
      have := nodes_even wide h1 6 _ _ _ h (by omega)
      omega
    · intro h
      obtain ⟨g1, g2⟩ := even_nodes wide h1 6 _ _ hin (by omega)
      rw [g2]; exact g1
end Go.Proofs.YticfkfjijnfcbaaDoor

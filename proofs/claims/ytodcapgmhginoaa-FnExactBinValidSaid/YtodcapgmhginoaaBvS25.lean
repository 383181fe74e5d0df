/- The program's evenDepth: plain data and contract. -/
import Derived.Test.YtodcapgmhginoaaProg
import Derived.Test.YtodcapgmhginoaaBvS0
import Derived.Deep.QuietTactic
import Derived.BigQuiet
import Derived.StillTailTactics
import Derived.WalkSmall
namespace Go.Proofs.Ytodcapgmhginoaa
open Go.RowKit

/-- One more than what all kids have in common, if they do and it is not 0. -/
def evenF (ds : List Nat) : Nat := if ds.getD 0 0 ≠ 0 ∧ ∀ x ∈ ds, x = ds.getD 0 0 then ds.getD 0 0 + 1 else 0

/-- How deep a tree is, if its nodes are as they have to be and it is no deeper than told; 0 if not. -/
def Tr.evenD (wide : Int) : Nat → Int → Tr → Nat
  | 0, _, _ => 0
  | l + 1, least, .mk ks cs =>
    if (ks.length : Int) < least ∨ wide < (ks.length : Int) then 0
    else if cs.length = 0 then 1
    else if cs.length ≠ ks.length + 1 then 0
    else evenF (cs.map (Tr.evenD wide l (wide / 2)))

theorem evenF_no {ds : List Nat} (j : Nat) (hj : j < ds.length) (h : ds[j] = 0 ∨ ds[j] ≠ ds.getD 0 0) : evenF ds = 0 := by
  unfold evenF
  rw [if_neg]
  rintro ⟨h1, h2⟩
  have h3 := h2 ds[j] (List.getElem_mem hj)
  rcases h with h | h
  · exact h1 (by rw [← h3, h])
  · exact h h3

theorem evenF_yes {ds : List Nat} {d : Nat} (h0 : 0 < ds.length) (hd : d ≠ 0) (h : ∀ i (hi : i < ds.length), ds[i] = d) : evenF ds = d + 1 := by
  have e0 : ds.getD 0 0 = d := by have h1 := h 0 h0; simpa [List.getD_eq_getElem?_getD, h0] using h1
  unfold evenF
  rw [e0, if_pos]
  refine ⟨hd, fun x hx => ?_⟩
  obtain ⟨i, hi, rfl⟩ := List.getElem_of_mem hx
  exact h i hi

theorem Tr.evenD_le (wide : Int) : ∀ (l : Nat) (least : Int) (t : Tr), t.evenD wide l least ≤ l
  | 0, _, _ => by simp [Tr.evenD]
  | l + 1, least, .mk ks cs => by
    unfold Tr.evenD
    split
    · omega
    split
    · omega
    split
    · omega
    · unfold evenF
      split
      · rename_i _ h _ _
        cases cs with
        | nil => exact absurd rfl h
        | cons c r =>
          have := Tr.evenD_le wide l (wide / 2) c
          simp; omega
      · omega

set_option maxRecDepth 100000 in
set_option maxHeartbeats 2000000 in
theorem evenDepth_c (wide : Int) (hw1 : 2 ≤ wide) (hw2 : wide ≤ 6) : ∀ (l : Nat) (_hl : l ≤ 6) {w : World} {B : Nat} {kv cv : Value} {t : Tr} (_ht : TreeIn w B kv cv t) (_hwt : t.weight ≤ 1048576) (b o : Nat) (least : Int),
    -9223372036854775808 ≤ least → least ≤ 9223372036854775807 → w.cell? ⟨b, o, none⟩ = some kv → w.cell? ⟨b, o + 1, none⟩ = some cv → b < B → ∀ w', Below B w w' → B ≤ w'.heap.size →
    Calls Try.prog 65 #[.pointer (some ⟨b, o, none⟩), .int .i64 least, .int .i64 wide, .int .i64 l] w' fun e w'' => e = .returned (.int .i64 (t.evenD wide l least)) ∧ Below w'.heap.size w' w'' := by
  intro l
  induction l with
  | zero =>
    intro hl w B kv cv t ht hwt b o least hl1 hl2 c1 c2 hbB w' hbw hB
    obtain ⟨a5, n5, m5, a6, n6, m6, rfl, rfl⟩ := ht.slices
    have d1 : w'.cell? ⟨b, o, none⟩ = some _ := (below_cell hbw hbB).trans c1
    have d2 : w'.cell? ⟨b, o + 1, none⟩ = some _ := (below_cell hbw hbB).trans c2
    have hfin : t.evenD wide 0 least = 0 := rfl
    clear c1 c2
    go_enter Try.func65, Try.ntmps65
    go_wp2_with fail
    go_quiet (fail)
    go_wp2_with fail
    go_ret
    exact ⟨ret_int (by rw [hfin]; rfl), below_drewN (Below.refl _ _) _⟩
  | succ l ih =>
    intro hl w B kv cv t ht hwt b o least hl1 hl2 c1 c2 hbB w' hbw hB
    cases t with
    | mk ks cs =>
      obtain ⟨a, cap, kvs, cvs, rfl, hk, hlen, hcap, hat, hkids⟩ := ht.parts
      obtain ⟨ka, kcap, rfl, _⟩ := hk
      simp only [Tr.weight] at hwt
      have hl0 := Tr.length_le_weights cs
      have d1 : w'.cell? ⟨b, o, none⟩ = some _ := (below_cell hbw hbB).trans c1
      have d2 : w'.cell? ⟨b, o + 1, none⟩ = some _ := (below_cell hbw hbB).trans c2
      obtain ⟨L, hL⟩ : ∃ L : Int, L = ((l + 1 : Nat) : Int) := ⟨_, rfl⟩
      rw [← hL]
      have hL1 : 1 ≤ L := by omega
      have hL6 : L ≤ 6 := by omega
      have hLne : (L == 0) = false := by simp; omega
      have HL := Lib.hid hL
      have HAT := Lib.hid hat
      have HKI := Lib.hid hkids
      have IH := Lib.hid ih
      have HBW := Lib.hid hbw
      clear c1 c2 hL hat hkids ih hbw ht
      by_cases g1 : (ks.length : Int) < least
      · have hfin : Tr.evenD wide (l + 1) least (.mk ks cs) = 0 := by simp only [Tr.evenD]; rw [if_pos (.inl g1)]
        have HF := Lib.hid hfin
        clear hfin
        go_enter Try.func65, Try.ntmps65
        go_wp2_with fail
        go_quiet (fail)
        go_wp2_with fail
        go_ret
        exact ⟨ret_int (by rw [HF.out]; rfl), below_drewN (Below.refl _ _) _⟩
      have b1 : decide ((ks.length : Int) < least) = false := by simpa using g1
      by_cases g2 : wide < (ks.length : Int)
      · have hfin : Tr.evenD wide (l + 1) least (.mk ks cs) = 0 := by simp only [Tr.evenD]; rw [if_pos (.inr g2)]
        have HF := Lib.hid hfin
        clear hfin
        go_enter Try.func65, Try.ntmps65
        go_wp2_with fail
        go_quiet (fail)
        go_wp2_with fail
        go_ret
        exact ⟨ret_int (by rw [HF.out]; rfl), below_drewN (Below.refl _ _) _⟩
      have b2 : decide (wide < (ks.length : Int)) = false := by simpa using g2
      by_cases g3 : cs.length = 0
      · have hfin : Tr.evenD wide (l + 1) least (.mk ks cs) = 1 := by simp only [Tr.evenD]; rw [if_neg (by omega), if_pos g3]
        have HF := Lib.hid hfin
        have g3' : ((cs.length : Int) == 0) = true := by simp [g3]
        clear hfin
        go_enter Try.func65, Try.ntmps65
        go_wp2_with fail
        go_quiet (fail)
        go_wp2_with fail
        go_ret
        exact ⟨ret_int (by rw [HF.out]; rfl), below_drewN (Below.refl _ _) _⟩
      have g3' : ((cs.length : Int) == 0) = false := by rw [beq_eq_false_iff_ne]; omega
      by_cases g4 : cs.length ≠ ks.length + 1
      · have hfin : Tr.evenD wide (l + 1) least (.mk ks cs) = 0 := by simp only [Tr.evenD]; rw [if_neg (by omega), if_neg g3, if_pos g4]
        have HF := Lib.hid hfin
        have g4' : ((cs.length : Int) != (ks.length : Int) + 1) = true := by simp; omega
        clear hfin g4
        go_enter Try.func65, Try.ntmps65
        go_wp2_with fail
        go_quiet (fail)
        go_wp2_with fail
        go_ret
        exact ⟨ret_int (by rw [HF.out]; rfl), below_drewN (Below.refl _ _) _⟩
      have g4' : ((cs.length : Int) != (ks.length : Int) + 1) = false := by simp; omega
      have hfin : Tr.evenD wide (l + 1) least (.mk ks cs) = evenF (cs.map (Tr.evenD wide l (wide / 2))) := by simp only [Tr.evenD]; rw [if_neg (by omega), if_neg g3, if_neg g4]
      have HF := Lib.hid hfin
      clear hfin g4
      go_enter Try.func65, Try.ntmps65
      go_wp2_with fail
      go_quiet (fail)
      go_wp2_with fail
      obtain ⟨ds, hds⟩ : ∃ ds, ds = cs.map (Tr.evenD wide l (wide / 2)) := ⟨_, rfl⟩
      have hdl : ds.length = cs.length := by rw [hds]; simp
      have hdi : ∀ i (h : i < cs.length), ds.getD i 0 = Tr.evenD wide l (wide / 2) cs[i] := fun i h => by rw [hds]; simp [List.getD_eq_getElem?_getD, h]
      have HDS := Lib.hid hds
      have HDL := Lib.hid hdl
      have HDI := Lib.hid hdi
      obtain ⟨D, hD⟩ : ∃ D, D = ds.getD 0 0 := ⟨_, rfl⟩
      have HD := Lib.hid hD
      have hD6 : D ≤ 6 := by rw [hD, hdi 0 (by omega)]; have := Tr.evenD_le wide l (wide / 2) cs[0]; omega
      clear hds hdl hdi hD
      go_loopw [11, 47] (fun d i wr => ∃ (j E : Nat), j ≤ cs.length ∧ i = .int .i64 j ∧ d = .int .i64 E ∧ (j = 0 → E = 0) ∧ (0 < j → E = D) ∧ (∀ i', i' < cs.length → i' < j → ds.getD i' 0 = D ∧ D ≠ 0) ∧ Below w'.heap.size w' wr) (fun _ i _ => cs.length - (intOf i).toNat)
      case atStart => exact ⟨0, 0, Nat.zero_le _, rfl, rfl, fun _ => rfl, fun h => by omega, fun i _ h => by omega, below_drewN (Below.refl _ _) _⟩
      case round =>
        obtain ⟨j, E, hj, rfl, rfl, hE0, hE1, hall, hbel⟩ := hrel
        have HE0 := Lib.hid hE0
        have HE1 := Lib.hid hE1
        have HALL := Lib.hid hall
        have HBEL := Lib.hid hbel
        by_cases hlt : j < cs.length
        · rcases HAT.out with h | ⟨b2, off, rfl, hb, hat⟩
          · omega
          obtain ⟨ha, hc⟩ := hat j hlt
          have e2 : wr.cell? ⟨b, o + 1, none⟩ = some _ := (below_cell hbel (by omega)).trans d2
          have HA := Lib.hid ha
          have HC := Lib.hid hc
          clear ha hc hat hE0 hE1 hall hbel d1 d2
          go_wp2_with fail
          have hLl : L - 1 = (l : Int) := by have := HL.out; omega
          rw [hLl]
          clear hLl
          refine (IH.out (by omega) (HKI.out j hlt) (by have := Tr.weight_get_le cs j hlt; omega) b2 (off + j * 2) (wide / 2) (by omega) (by omega) HA.out HC.out hb wr (HBW.out.trans (HBEL.out.mono hB)) (by have := HBEL.out.size; omega)).mono ?_
          rintro e w1 ⟨rfl, hb1⟩
          have hX := HDI.out j hlt
          generalize Tr.evenD wide l (wide / 2) cs[j] = X at hX ⊢
          have hX6 : X ≤ 6 := by
            have := HDI.out j hlt
            have h2 := Tr.evenD_le wide l (wide / 2) cs[j]
            omega
          have HX := Lib.hid hX
          have hb1' := HBEL.out.trans (hb1.mono HBEL.out.size)
          have HB1 := Lib.hid hb1'
          clear hX hb1 hb1'
          by_cases x0 : X = 0
          · have x0' : ((X : Int) == 0) = true := by simp [x0]
            go_wp2_with fail
            go_ret
            refine ⟨ret_int ?_, HB1.out⟩
            rw [HF.out, ← HDS.out, evenF_no j (by rw [HDL.out]; exact hlt) (.inl ?_)]
            · rfl
            · have := HX.out; rw [List.getD_eq_getElem?_getD] at this; simp [HDL.out, hlt] at this; omega
          have x0' : ((X : Int) == 0) = false := by rw [beq_eq_false_iff_ne]; omega
          by_cases j0 : j = 0
          · have j0' : decide ((0 : Int) < (j : Int)) = false := by simp [j0]
            go_wp2_with fail
            go_roundw
            case rel => 
              refine ⟨j + 1, X, by omega, by go_num, rfl, fun h => by omega, fun _ => ?_, fun i hi hij => ?_, HB1.out⟩
              · rw [HD.out, ← HX.out, j0]
              · obtain rfl : i = j := by omega
                have h1 := HX.out
                have h2 := HD.out
                subst j0
                omega
            case measure => simp [intOf]; omega
          have j0' : decide ((0 : Int) < (j : Int)) = true := by simp; omega
          by_cases xe : X = E
          · have xe' : ((X : Int) != (E : Int)) = false := by simp [xe]
            go_wp2_with fail
            go_roundw
            case rel =>
              refine ⟨j + 1, X, by omega, by go_num, by rw [xe], fun h => by omega, fun _ => ?_, fun i hi hij => ?_, HB1.out⟩
              · rw [xe, HE1.out (by omega)]
              · by_cases hij' : i = j
                · subst hij'
                  have h1 := HX.out
                  have h2 := HE1.out (by omega)
                  omega
                · exact HALL.out i hi (by omega)
            case measure => simp [intOf]; omega
          · have xe' : ((X : Int) != (E : Int)) = true := by rw [bne_iff_ne]; omega
            go_wp2_with fail
            go_ret
            refine ⟨ret_int ?_, HB1.out⟩
            rw [HF.out, ← HDS.out, evenF_no j (by rw [HDL.out]; exact hlt) (.inr ?_)]
            · rfl
            · have h1 := HX.out
              have h2 := HE1.out (by omega)
              have h3 := HD.out
              rw [List.getD_eq_getElem?_getD] at h1
              simp only [HDL.out, hlt, List.getElem?_eq_getElem, Option.getD_some] at h1
              omega
        · obtain rfl : j = cs.length := by omega
          clear hE0 hE1 hall hbel
          have hE : E ≤ 6 := by have := HE1.out (by omega); omega
          go_wp2_with fail
          go_ret
          refine ⟨ret_int ?_, HBEL.out⟩
          have h0 := HALL.out 0 (by omega) (by omega)
          rw [HF.out, ← HDS.out, evenF_yes (d := D) (by rw [HDL.out]; omega) h0.2 (fun i hi => ?_)]
          · have := HE1.out (by omega); omega
          · have hi' : i < cs.length := by rw [HDL.out] at hi; exact hi
            have := (HALL.out i hi' hi').1
            rw [List.getD_eq_getElem?_getD] at this
            simpa [hi] using this
end Go.Proofs.Ytodcapgmhginoaa

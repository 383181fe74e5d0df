/- The program's evenDepth: plain data and contract. -/
import Derived.Test.YtananonjomfpkaaQk5
import Derived.StillTailTactics
/- Whether the numbers of a list are keys, and not too many: the contracts of the model's l3Keys and the program's areKeys. -/
namespace Go.Proofs.Ytananonjomfpkaa
open Go.RowKit
def keysOk (ks : List Int) : Bool := (List.range ks.length).all (fun i => inB (ks.getD i 0) 0 99) && decide (ks.length ≤ 200)
theorem keysOk_not {ks : List Int} (i : Nat) (hi : i < ks.length) (h : inB (ks.getD i 0) 0 99 = false) : keysOk ks = false := by
 have h1 : (List.range ks.length).all (fun i => inB (ks.getD i 0) 0 99) = false := by
   rw [List.all_eq_false]
   exact ⟨i, List.mem_range.2 hi, by rw [h]; simp⟩
 unfold keysOk
 rw [h1, Bool.false_and]
theorem keysOk_of {ks : List Int} (h : ∀ i, i < ks.length → inB (ks.getD i 0) 0 99 = true) : keysOk ks = decide (ks.length ≤ 200) := by
 have h1 : (List.range ks.length).all (fun i => inB (ks.getD i 0) 0 99) = true := by
   rw [List.all_eq_true]
   exact fun i hi => h i (List.mem_range.1 hi)
 unfold keysOk
 rw [h1, Bool.true_and]
set_option maxRecDepth 100000 in
set_option maxHeartbeats 1000000 in
theorem l3Keys_c {v : Value} {ks : List Int} (w : World) (B : Nat) (hk : IntsIn w B v ks) :
   Calls Try.prog 82 #[v] w fun e w' => e = .returned (.bool (keysOk ks)) ∧ w' = w := by
 obtain ⟨a, cap, rfl, h1, h2, _, h3⟩ := hk
 unfold maxLen at h2
 have HK := Lib.hid h3
 clear h3
 go_enter Try.func82, Try.ntmps82
 go_wp2_with fail
 go_loopw [4, 7] (fun s4 i wr => ∃ (j : Nat), j ≤ ks.length ∧ i = .int .i64 j ∧ (∀ q, q < j → inB (ks.getD q 0) 0 99 = true) ∧ wr = w) (fun _ i _ => ks.length - (intOf i).toNat)
 case atStart => exact ⟨0, Nat.zero_le _, rfl, fun q h => by omega, rfl⟩
 case round =>
   obtain ⟨j, hj, rfl, hall, rfl⟩ := hrel
   have HALL := Lib.hid hall
   clear hall
   by_cases hlt : j < ks.length
   · rcases HK.out with h | ⟨b, off, rfl, hb, hat⟩
     · simp [h] at hlt
     have ha' := hat j hlt
     obtain ⟨x, hx⟩ : ∃ x, x = ks.getD j 0 := ⟨_, rfl⟩
     rw [← hx] at ha'
     have hjl : (j : Int) < (ks.length : Int) := by omega
     have HX := Lib.hid hx
     clear hx hat
     go_wp2_with fail
     refine (l1In_c x 0 99 _).mono ?_
     rintro e w5 ⟨rfl, rfl⟩
     cases hin : inB x 0 99 with
     | false =>
       have HNO := Lib.hid (keysOk_not j hlt (by rw [← HX.out]; exact hin))
       clear hin
       go_wp2_with fail
       go_ret
       exact ⟨ret_bool (by rw [HNO.out]), rfl⟩
     | true =>
       have HIN := Lib.hid hin
       clear hin
       go_wp2_with fail
       go_roundw
       case rel =>
         refine ⟨j + 1, by omega, by go_num, fun q hq => ?_, trivial⟩
         by_cases hqj : q = j
         · rw [hqj, ← HX.out]; exact HIN.out
         · exact HALL.out q (by omega)
       case measure => simp [intOf]; omega
   · have hje : j = ks.length := by omega
     have HOK := Lib.hid (keysOk_of (ks := ks) (fun q h => HALL.out q (by omega)))
     have hjl : ¬ (j : Int) < (ks.length : Int) := by omega
     clear hje
     go_wp2_with fail
     go_ret
     refine ⟨ret_bool ?_, rfl⟩
     rw [HOK.out]
     simp
     omega
set_option maxRecDepth 100000 in
set_option maxHeartbeats 1000000 in
theorem areKeys_c {v : Value} {ks : List Int} (w : World) (B : Nat) (hk : IntsIn w B v ks) :
   Calls Try.prog 92 #[v] w fun e w' => e = .returned (.bool (keysOk ks)) ∧ w' = w := by
 obtain ⟨a, cap, rfl, h1, h2, _, h3⟩ := hk
 unfold maxLen at h2
 have HK := Lib.hid h3
 clear h3
 go_enter Try.func92, Try.ntmps92
 by_cases hbig : ks.length ≤ 200
 · have hb' : ¬ ((ks.length : Int) > 200) := by omega
   have HBIG := Lib.hid hbig
   clear hbig
   go_wp2_with fail
   go_loopw [4, 10] (fun s4 i wr => ∃ (j : Nat), j ≤ ks.length ∧ i = .int .i64 j ∧ (∀ q, q < j → inB (ks.getD q 0) 0 99 = true) ∧ wr = w) (fun _ i _ => ks.length - (intOf i).toNat)
   case atStart => exact ⟨0, Nat.zero_le _, rfl, fun q h => by omega, rfl⟩
   case round =>
     obtain ⟨j, hj, rfl, hall, rfl⟩ := hrel
     have HALL := Lib.hid hall
     clear hall
     by_cases hlt : j < ks.length
     · rcases HK.out with h | ⟨b, off, rfl, hb, hat⟩
       · simp [h] at hlt
       have ha' := hat j hlt
       obtain ⟨x, hx⟩ : ∃ x, x = ks.getD j 0 := ⟨_, rfl⟩
       rw [← hx] at ha'
       have hjl : (j : Int) < (ks.length : Int) := by omega
       have HX := Lib.hid hx
       clear hx hat
       go_wp2_with fail
       refine (isKey_c x _).mono ?_
       rintro e w5 ⟨rfl, rfl⟩
       cases hin : inB x 0 99 with
       | false =>
         have HNO := Lib.hid (keysOk_not j hlt (by rw [← HX.out]; exact hin))
         clear hin
         go_wp2_with fail
         go_ret
         exact ⟨ret_bool (by rw [HNO.out]), rfl⟩
       | true =>
         have HIN := Lib.hid hin
         clear hin
         go_wp2_with fail
         go_roundw
         case rel =>
           refine ⟨j + 1, by omega, by go_num, fun q hq => ?_, trivial⟩
           by_cases hqj : q = j
           · rw [hqj, ← HX.out]; exact HIN.out
           · exact HALL.out q (by omega)
         case measure => simp [intOf]; omega
     · have HOK := Lib.hid (keysOk_of (ks := ks) (fun q h => HALL.out q (by omega)))
       have hjl : ¬ (j : Int) < (ks.length : Int) := by omega
       go_wp2_with fail
       go_ret
       exact ⟨ret_bool (by rw [HOK.out]; exact (decide_eq_true HBIG.out).symm), rfl⟩
 · have hb' : ((ks.length : Int) > 200) := by omega
   have HNO : Hid (keysOk ks = false) := Lib.hid (by unfold keysOk; rw [decide_eq_false hbig, Bool.and_false])
   clear hbig
   go_wp2_with fail
   go_ret
   exact ⟨ret_bool (by rw [HNO.out]), rfl⟩
end Go.Proofs.Ytananonjomfpkaa
/- The program's evenDepth: plain data and contract. -/
namespace Go.Proofs.Ytananonjomfpkaa
open Go.RowKit
def evenF (ds : List Nat) : Nat := if ds.getD 0 0 ≠ 0 ∧ ∀ x ∈ ds, x = ds.getD 0 0 then ds.getD 0 0 + 1 else 0
def Tr.evenD (wide : Int) : Nat → Int → Tr → Nat
 | 0, _, _ => 0
 | l + 1, least, .mk ks cs =>
   if (ks.length : Int) < least ∨ wide < (ks.length : Int) then 0
   else if cs.length = 0 then 1
   else if cs.length ≠ ks.length + 1 then 0
   else evenF (cs.map (Tr.evenD wide l (wide / 2)))
end Go.Proofs.Ytananonjomfpkaa

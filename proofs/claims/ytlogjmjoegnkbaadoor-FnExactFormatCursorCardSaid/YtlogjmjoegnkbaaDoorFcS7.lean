/- Decimal texts: the model's l15Dec. -/
import Derived.Test.YtlogjmjoegnkbaaDoorProg
import Derived.Test.YtlogjmjoegnkbaaDoorFcS1
import Derived.Lib.ItoaMem
import Derived.Lib.ItoaLen
import Derived.Laws.Concat
import Derived.Laws.IdiomStrings
namespace Go.Proofs.YtlogjmjoegnkbaaDoor
open Go.RowKit

theorem str_add (l m : List UInt8) (h : l.length + m.length ≤ 1000000000) (w : World) : (Op.stringOp .add ⟨l.toArray⟩ ⟨m.toArray⟩).run Tryd.prog w = .ok (.string ⟨(l ++ m).toArray⟩) w := by
  rw [run_string_add_sum w _ _ (by
    have h1 : (ByteArray.mk l.toArray).size = l.length := by show l.toArray.size = _; simp
    have h2 : (ByteArray.mk m.toArray).size = m.length := by show m.toArray.size = _; simp
    omega), ByteArray.mk_append_mk]

theorem dec_step {u : Nat} (h : ¬ u < 10) : Lib.decDigits u = Lib.decDigits (u / 10) ++ [UInt8.ofNat (48 + u % 10)] := by rw [Lib.decDigits, dif_neg h]
theorem digit_u8 (d : Nat) (h : d < 10) : ((UInt8.ofNat (48 + d)).toNat : Int) = 48 + d := by
  rw [UInt8.toNat_ofNat']
  omega

/-- One byte in a row of its own, read back as a text. -/
theorem byte_back (w : World) (d : Nat) (h : d < 10) (cap : Nat) : (convert 34 9 (.slice (some ⟨w.heap.size, 0, none⟩) 1 cap)).run Tryd.prog (w.alloc (.cells #[.int .u8 (48 + (d : Int))] 5)) = .ok (.string ⟨[UInt8.ofNat (48 + d)].toArray⟩) (w.alloc (.cells #[.int .u8 (48 + (d : Int))] 5)) := by
  refine run_convert_bytes_back (P := Tryd.prog) _ _ _ 5 ⟨w.heap.size, 0, none⟩ cap [UInt8.ofNat (48 + d)] Tryd.underlying34 Tryd.underlying5 Tryd.underlying9 (fun j hj => ?_)
  obtain rfl : j = 0 := by simpa using hj
  have hk : (w.alloc (.cells #[.int .u8 (48 + (d : Int))] 5)).heap[w.heap.size]? = some (.cells #[.int .u8 (48 + (d : Int))] 5 (0, 0)) := new_blk _ _
  generalize w.alloc (.cells #[.int .u8 (48 + (d : Int))] 5) = W at hk
  simp [World.cell?, Addr.add, hk]
  omega

set_option maxHeartbeats 2000000 in
set_option maxRecDepth 100000 in
theorem decPos_c (u : Nat) (hu : u ≤ 9223372036854775807) (w : World) :
    Calls Tryd.prog 10 #[.int .i64 u] w fun e w' => e = .returned (.string ⟨(Lib.decDigits u).toArray⟩) ∧ Below w.heap.size w w' := by
  obtain ⟨U, hU⟩ : ∃ U : Int, U = u := ⟨_, rfl⟩
  have h1 : ¬ U < -9223372036854775807 := by omega
  have h2 : ¬ U < 0 := by omega
  rw [← hU]
  have HU := Lib.hid hU
  clear hU
  go_enter Tryd.func10, Tryd.ntmps10
  go_wp2_with fail
  go_loopw [0, 3] (fun s0 s3 wr => ∃ (v : Nat) (s : List UInt8), v ≤ 9223372036854775807 ∧ s0 = .int .i64 v ∧ s3 = .string ⟨s.toArray⟩ ∧ Hid (Lib.decDigits u = Lib.decDigits v ++ s) ∧ Below w.heap.size w wr) (fun s0 _ _ => (intOf s0).toNat)
  case atStart => exact ⟨u, [], hu, by rw [HU.out], rfl, Lib.hid (by simp), Below.refl _ _⟩
  case round =>
    obtain ⟨v, s, hv, rfl, rfl, HD, hbel⟩ := hrel
    have hsz := hbel.size
    have HB := Lib.hid hbel
    clear hbel
    have hsl : s.length ≤ 20 := by
      have e := congrArg List.length HD.out
      rw [Lib.decDigits_length, List.length_append] at e
      have := Lib.nDigits_le20 u (by omega)
      omega
    by_cases h9 : v < 10
    · have hgt : ¬ (v : Int) > 9 := by omega
      have hbb := byte_back wr v h9 1
      have hsa := fun wx => str_add [UInt8.ofNat (48 + v)] s (by simp; omega) wx
      have HE := Lib.hid (show [UInt8.ofNat (48 + v)] ++ s = Lib.decDigits u by rw [HD.out, Lib.decDigits_one h9])
      generalize hL : [UInt8.ofNat (48 + v)] ++ s = L at hsa HE
      generalize [UInt8.ofNat (48 + v)] = b at hbb hsa
      clear hL
      have HBL := Lib.hid (HB.out.trans (((Below.refl wr.heap.size wr).alloc (Nat.le_refl _) (.cells #[.int .u8 (48 + (v : Int))] 5)).mono hsz))
      go_wp2_with fail
      go_ret
      exact ⟨by rw [HE.out]; rfl, HBL.out⟩
    · have hgt : (v : Int) > 9 := by omega
      have hbb := byte_back wr (v % 10) (by omega) 1
      rw [show (((v % 10 : Nat)) : Int) = (v : Int) % 10 by omega] at hbb
      have hsa := fun wx => str_add [UInt8.ofNat (48 + v % 10)] s (by simp; omega) wx
      have HE := Lib.hid (show Lib.decDigits u = Lib.decDigits (v / 10) ++ ([UInt8.ofNat (48 + v % 10)] ++ s) by rw [HD.out, dec_step h9, List.append_assoc])
      generalize hL : [UInt8.ofNat (48 + v % 10)] ++ s = L at hsa HE
      generalize [UInt8.ofNat (48 + v % 10)] = b at hbb hsa
      clear hL
      have HBL := Lib.hid (HB.out.trans (((Below.refl wr.heap.size wr).alloc (Nat.le_refl _) (.cells #[.int .u8 (48 + (v : Int) % 10)] 5)).mono hsz))
      go_wp2_with fail
      go_roundw
      case rel => exact ⟨v / 10, L, by omega, by first | rfl | go_num, rfl, HE, HBL.out⟩
      case measure => simp [intOf]; omega

theorem min_text : Lib.itoa (-9223372036854775808) = [45, 57, 50, 50, 51, 51, 55, 50, 48, 51, 54, 56, 53, 52, 55, 55, 53, 56, 48, 56] := by
  have h := Lib.itoa_neg 9223372036854775808 (by omega)
  rw [show (-((9223372036854775808 : Nat) : Int)) = -9223372036854775808 by rfl] at h
  rw [h]
  simp [Lib.decDigits]

set_option maxHeartbeats 2000000 in
set_option maxRecDepth 100000 in
theorem dec_c (n : Int) (h0 : -9223372036854775808 ≤ n) (h1 : n ≤ 9223372036854775807) (w : World) :
    Calls Tryd.prog 10 #[.int .i64 n] w fun e w' => e = .returned (.string ⟨(Lib.itoa n).toArray⟩) ∧ Below w.heap.size w w' := by
  by_cases hn : n < 0
  case neg =>
    obtain ⟨u, rfl⟩ : ∃ u : Nat, n = u := ⟨n.toNat, by omega⟩
    rw [Lib.itoa_nonneg]
    exact decPos_c u (by omega) w
  by_cases hm : n < -9223372036854775807
  · have HT := Lib.hid min_text
    obtain rfl : n = -9223372036854775808 := by omega
    go_enter Tryd.func10, Tryd.ntmps10
    go_wp2_with fail
    go_ret
    exact ⟨by rw [HT.out]; rfl, Below.refl _ _⟩
  · obtain ⟨u, hu⟩ : ∃ u : Nat, n = -(u : Int) := ⟨n.natAbs, by omega⟩
    have HP := Lib.hid (decPos_c u (by omega) w)
    have hsl : (Lib.decDigits u).length ≤ 20 := by rw [Lib.decDigits_length]; exact Lib.nDigits_le20 u (by omega)
    have hsa := fun wx => str_add [45] (Lib.decDigits u) (by simp; omega) wx
    have HE := Lib.hid (show [45] ++ Lib.decDigits u = Lib.itoa n by rw [hu, Lib.itoa_neg u (by omega)]; rfl)
    have hneg : -n = (u : Int) := by omega
    have hwr : IntKind.i64.wrap (-n) = (u : Int) := by rw [IntKind.wrap_i64]; omega
    generalize hL : [45] ++ Lib.decDigits u = L at hsa HE
    generalize hD : Lib.decDigits u = D at hsa HP
    clear hL hD hu
    go_enter Tryd.func10, Tryd.ntmps10
    go_wp2_with fail
    refine HP.out.mono ?_
    rintro e w2 ⟨rfl, hb2⟩
    have H2 := Lib.hid hb2
    clear hb2
    go_wp2_with fail
    go_ret
    exact ⟨by rw [HE.out]; rfl, H2.out⟩
end Go.Proofs.YtlogjmjoegnkbaaDoor

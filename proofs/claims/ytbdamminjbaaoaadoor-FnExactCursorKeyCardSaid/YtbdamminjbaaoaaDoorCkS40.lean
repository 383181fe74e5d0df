/- The key at which a walker stands. -/
import Derived.Test.YtbdamminjbaaoaaDoorProg
import Derived.Test.YtbdamminjbaaoaaDoorCkS1
import Derived.Test.YtbdamminjbaaoaaDoorCkS37
import Derived.Test.YtbdamminjbaaoaaDoorCkS38
import Derived.Deep.QuietTactic
import Derived.BigQuiet
import Derived.StillTailTactics
namespace Go.Proofs.YtbdamminjbaaoaaDoor
open Go.RowKit

set_option maxHeartbeats 1000000 in
set_option maxRecDepth 100000 in
theorem lowest_c {w : World} {b D : Nat} {f : Nat → Value × Int} (h : Walker w b f (D + 1)) (hD : D < 6) :
    Calls Tryd.prog 97 #[.pointer (some ⟨b, 0, none⟩)] w fun e w' => e = .returned (.pointer (some ⟨b, D * 2, none⟩)) ∧ Below w.heap.size w w' ∧ w'.heap = w.heap := by
  obtain ⟨C, hx, hC, h12, hat⟩ := h.blk
  have x1 : w.cell? ⟨b, 12, none⟩ = some (.int .i64 ((D : Int) + 1)) := by simp [World.cell?, hx, h12]
  have hDi : (D : Int) < 6 := by omega
  have hD0 : (0 : Int) ≤ (D : Int) := by omega
  have hwr : IntKind.i64.wrap ((D : Int) + 1 - 1) = (D : Int) := by rw [IntKind.wrap_i64]; omega
  have hsub : (D : Int) + 1 - 1 = (D : Int) := by omega
  clear h hx hC h12 hat
  go_enter Tryd.func97, Tryd.ntmps97
  go_wp2_with fail
  go_quiet (fail)
  go_wp2_with fail
  go_ret
  refine ⟨?_, ?_, ?_⟩
  · first | rfl | simp
  · first | exact below_drewN _ _ _ | exact Below.refl _ _
  · rfl

set_option maxHeartbeats 1000000 in
set_option maxRecDepth 100000 in
theorem key_c {w : World} {b D p lo hi : Nat} {f : Nat → Value × Int} {a : Int} {k : List Int} {c : List Tr} (h : Walker w b f (D + 1)) (hD : D < 6) (hf : f D = (.pointer (some ⟨p, 0, none⟩), a)) (hn : NodeAt w lo hi p (.mk k c)) (ha : 0 ≤ a ∧ a < (k.length : Int)) :
    Calls Tryd.prog 73 #[.pointer (some ⟨b, 0, none⟩)] w fun e w' => e = .returned (.int .i64 (k.getD a.toNat 0)) ∧ Below w.heap.size w w' := by
  have HLW := Lib.hid (lowest_c h hD)
  obtain ⟨C, hx, hC, h12, hat⟩ := h.blk
  obtain ⟨N, rfl⟩ : ∃ N : Nat, a = N := ⟨a.toNat, by omega⟩
  rw [Int.toNat_natCast]
  have hN : N < k.length := by omega
  have hd := hat D (by omega)
  rw [hf] at hd
  have hc1 : C[D * 2]? = some (.pointer (some ⟨p, 0, none⟩)) := by rw [show D * 2 = 2 * D by omega]; exact hd.1
  have hc2 : C[D * 2 + 1]? = some (.int .i64 (N : Int)) := by rw [show D * 2 + 1 = 2 * D + 1 by omega]; exact hd.2
  obtain ⟨ukv, ca, ccap, ps, -, -, hbox, hik, -, -, -, -⟩ := hn.parts
  obtain ⟨ka, kcap, rfl, hk1, hk2, -, hk3⟩ := hik
  unfold maxLen at hk2
  rcases hk3 with h0 | ⟨kb, ko, rfl, -, -, hkc⟩
  · simp [h0] at hN
  have hkN := hkc N hN
  have CE : Hid (∀ wx : World, wx.heap = w.heap → wx.cell? ⟨b, D * 2, none⟩ = some (.pointer (some ⟨p, 0, none⟩)) ∧ wx.cell? ⟨b, D * 2 + 1, none⟩ = some (.int .i64 (N : Int)) ∧ wx.cell? ⟨p, 0, none⟩ = some (.slice (some ⟨kb, ko, none⟩) k.length kcap) ∧ wx.cell? ⟨kb, ko + N, none⟩ = some (.int .i64 (k.getD N 0))) :=
    Lib.hid (fun wx he => by
      refine ⟨?_, ?_, ?_, ?_⟩
      · simp [World.cell?, he, hx, hc1]
      · simp [World.cell?, he, hx, hc2]
      · simp [World.cell?, he, hbox]
      · have e : wx.cell? ⟨kb, ko + N, none⟩ = w.cell? ⟨kb, ko + N, none⟩ := by simp [World.cell?, he]
        rw [e]; exact hkN)
  have hNl : (N : Int) < (k.length : Int) := by omega
  clear h hx hC h12 hat hd hc1 hc2 hbox hkc hkN ha hf hn
  obtain ⟨K, hK⟩ : ∃ K, K = k.getD N 0 := ⟨_, rfl⟩
  rw [← hK] at CE ⊢
  clear hK
  go_enter Tryd.func73, Tryd.ntmps73
  go_wp2_with fail
  refine HLW.out.mono ?_
  rintro e w2 ⟨rfl, hb2, hh⟩
  obtain ⟨x1, x2, x3, x4⟩ := CE.out w2 hh
  have H2 := Lib.hid hb2
  clear hb2 hh
  go_wp2_with fail
  go_quiet (fail)
  go_wp2_with fail
  go_ret
  exact ⟨rfl, H2.out.trans (below_drewN _ _ _)⟩
end Go.Proofs.YtbdamminjbaaoaaDoor

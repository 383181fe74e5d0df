/- A tree in memory as the tree of nodes whose kids the program's kidsOf tells; the program's DepthOf. -/
import Derived.Test.YtodcapgmhginoaaProg
import Derived.Test.YtodcapgmhginoaaKyS0
import Derived.Test.YtodcapgmhginoaaKyS3
import Derived.Test.YtodcapgmhginoaaKyS9
import Derived.Test.YtodcapgmhginoaaKyS11
import Derived.Test.YtodcapgmhginoaaKyS5
import Derived.WalkKit
namespace Go.Proofs.Ytodcapgmhginoaa
open Go.RowKit

namespace ATr
mutual
/-- The nodes, each with the tree below it. -/
def ro : ATr → Ro ATr
  | .mk nb no k c => .mk (.mk nb no k c) nb no (ros c)
def ros : List ATr → List (Ro ATr)
  | [] => []
  | a :: r => ro a :: ros r
end
theorem ros_length (c : List ATr) : (ros c).length = c.length := by
  induction c with
  | nil => rfl
  | cons a r ih => simp [ros, ih]
theorem ros_get (c : List ATr) (i : Nat) (h : i < c.length) : (ros c)[i]'(by rw [ros_length]; exact h) = c[i].ro := by
  induction c generalizing i with
  | nil => simp at h
  | cons a r ih =>
    cases i with
    | zero => rfl
    | succ i => simpa [ros] using ih i (by simpa using h)
theorem ro_lab (a : ATr) : a.ro.lab = a := by cases a; rfl
theorem ro_nb (a : ATr) : a.ro.nb = a.nb := by cases a; rfl
theorem ro_no (a : ATr) : a.ro.no = a.no := by cases a; rfl
theorem ro_addr (a : ATr) : a.ro.addr = a.addr := by cases a; rfl
theorem ro_cs (a : ATr) : a.ro.cs = ros a.cs := by cases a; rfl
mutual
theorem ro_siz : ∀ a : ATr, a.ro.siz ≤ a.tr.weight
  | .mk nb no k c => by
    have := ros_siz c
    simp only [ro, Ro.siz, tr, Tr.weight]; omega
theorem ros_siz : ∀ c : List ATr, Ro.sizs (ros c) ≤ Tr.weights (trs c)
  | [] => Nat.le_refl _
  | a :: r => by
    have h1 := ro_siz a
    have h2 := ros_siz r
    simp only [ros, Ro.sizs, trs, Tr.weights]; omega
end
mutual
theorem ro_depth : ∀ a : ATr, a.ro.depth = a.tr.depth
  | .mk nb no k c => by
    simp only [ro, Ro.depth, tr, Tr.depth, ros_depth c]; omega
theorem ros_depth : ∀ c : List ATr, Ro.depths (ros c) = Tr.depths (trs c)
  | [] => rfl
  | a :: r => by simp only [ros, Ro.depths, trs, Tr.depths, ro_depth a, ros_depth r]
end
end ATr

/-- The slice of a node's kids, in its second cell. -/
def kidsFn (w : World) (b o : Nat) : Option Addr × Nat × Nat :=
  match w.cell? ⟨b, o + 1, none⟩ with
  | some (.slice a n c) => (a, n, c)
  | _ => (none, 0, 0)
open Classical in
/-- The tree at an address. -/
noncomputable def treeFn (w : World) (b o : Nat) : ATr := if h : ∃ a, AT w a ∧ a.nb = b ∧ a.no = o then h.choose else .mk 0 0 [] []
theorem treeFn_is {w : World} {a : ATr} (h : AT w a) : treeFn w a.nb a.no = a := by
  have hx : ∃ c, AT w c ∧ c.nb = a.nb ∧ c.no = a.no := ⟨a, h, rfl, rfl⟩
  unfold treeFn
  rw [dif_pos hx]
  exact h.one hx.choose_spec.1 hx.choose_spec.2.1 hx.choose_spec.2.2

theorem kidsOf_c (b o : Nat) (a : Option Addr) (n c : Nat) (w : World) (h : w.cell? ⟨b, o + 1, none⟩ = some (.slice a n c)) :
    Calls Try.prog 73 #[.pointer (some ⟨b, o, none⟩)] w fun e w' => e = .returned (.slice a n c) ∧ Below w.heap.size w w' := by
  go_enter Try.func73, Try.ntmps73
  go_wp2_with fail
  go_ret
  exact ⟨rfl, Below.refl _ _⟩

theorem AT.ro {w : World} {a : ATr} (h : AT w a) : RoAt Try.prog 73 2 (kidsFn w) (treeFn w) w a.ro := by
  have h00 := h
  induction h with
  | mk nb no ks cs ka ha kc hc g go h ho hp h0 h1 hk hn hkids e0 e1 e2 ih =>
    have hl := ATr.ros_length cs
    refine .mk _ nb no (ATr.ros cs) ha hc h ho hp (treeFn_is h00).symm ?_ ?_ ?_ ?_ ?_
    · simp only [kidsFn, h1, hl]
    · intro W hW
      rw [hl]
      exact kidsOf_c nb no ha cs.length hc W (by rw [below_cell hW (World.block_lt_of_cell? w _ h1)]; exact h1)
    · intro i hi
      rw [ATr.ros_get cs i (by omega), ATr.ro_nb, ATr.ro_no]
      exact hn i (by omega)
    · intro i hi
      rw [ATr.ros_get cs i (by omega)]
      exact ih i (by omega) (hkids i (by omega))
    · rw [hl]; exact e1
end Go.Proofs.Ytodcapgmhginoaa

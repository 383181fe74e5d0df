/- The text of a cursor: plain data. -/
import Derived.Test.YtlogjmjoegnkbaaDoorFcS1
import Derived.Test.YtlogjmjoegnkbaaDoorFcS8
import Derived.Lib.ItoaLen
namespace Go.Proofs.YtlogjmjoegnkbaaDoor
open Go.RowKit

def pathText (ks : List Int) : List UInt8 := ks.flatMap fun k => Lib.itoa k ++ [47]
def curText (ks : List Int) (a : Int) : List UInt8 := pathText ks ++ Lib.itoa a

theorem pathText_snoc (ks : List Int) {j : Nat} (h : j < ks.length) : pathText (ks.take (j + 1)) = pathText (ks.take j) ++ (Lib.itoa (ks.getD j 0) ++ [47]) := by
  have e : ks.getD j 0 = ks[j] := by simp [List.getD_eq_getElem?_getD, h]
  unfold pathText
  rw [List.take_succ_eq_append_getElem h, e, List.flatMap_append]
  generalize ks[j] = x
  simp
theorem pathText_len : ∀ (ks : List Int), (∀ k ∈ ks, Fits k) → (pathText ks).length ≤ 22 * ks.length
  | [], _ => by simp [pathText]
  | k :: ks, h => by
    have h1 := pathText_len ks (fun x hx => h x (List.mem_cons_of_mem _ hx))
    have hk := h k (List.mem_cons_self ..)
    have h2 := Lib.itoa_length_le k hk.1 hk.2
    have e : pathText (k :: ks) = Lib.itoa k ++ [47] ++ pathText ks := by simp [pathText]
    rw [e]
    simp only [List.length_append, List.length_cons, List.length_nil]
    omega
theorem pathText_few {ks : List Int} (h : ∀ k ∈ ks, Fits k) (hn : ks.length ≤ 1048576) (j : Nat) : (pathText (ks.take j)).length ≤ 23068672 := by
  have h1 := pathText_len (ks.take j) (fun x hx => h x (List.mem_of_mem_take hx))
  have h2 : (ks.take j).length ≤ ks.length := by rw [List.length_take]; omega
  omega
theorem fits_at {ks : List Int} (h : ∀ k ∈ ks, Fits k) {j : Nat} (hj : j < ks.length) : Fits (ks.getD j 0) := by
  rw [List.getD_eq_getElem?_getD, List.getElem?_eq_getElem hj]
  exact h _ (List.getElem_mem hj)
end Go.Proofs.YtlogjmjoegnkbaaDoor

/- The library's AppendInt: a number's decimal text behind a row of bytes of one's own. -/
import Derived.Test.YtlogjmjoegnkbaaDoorProg
import Derived.Test.YtlogjmjoegnkbaaDoorFcS1
import Derived.Test.YtlogjmjoegnkbaaDoorFcS11
import Derived.Lib.AppendIntMem
import Derived.Lib.ItoaLen
import Derived.OwnWalk
namespace Go.Proofs.YtlogjmjoegnkbaaDoor
open Go.RowKit

theorem app_c (B : Nat) (l : List UInt8) (n : Int) (h0 : -9223372036854775808 ≤ n) (h1 : n ≤ 9223372036854775807) (v : Value) (w0 w : World)
    (hown : w.ownsRow B 5 1 v l.length (Lib.byteCells l)) (hB : B ≤ w.heap.size) (hl : l.length ≤ 1000000000)
    (htab : Lib.TabBelow Tryd.prog B w "internal/strconv.uint64pow10" .u64 Lib.pow10Tab) :
    Calls Tryd.prog 12 #[v, .int .i64 n, .int .i64 10] w fun e w' => ∃ v', e = .returned v' ∧ w'.ownsRow B 5 1 v' (l ++ Lib.itoa n).length (Lib.byteCells (l ++ Lib.itoa n)) ∧ Below B w w' := by
  have h := Go.Proofs.Any.strconv_AppendInt_10 (P := Tryd.prog) (ρ := appRen) { appLay with } B l.length n h0 h1 v (Lib.byteCells l) w hown hB (by omega) htab
  refine h.mono ?_
  rintro e w' ⟨v', rfl, ho, hb, -⟩
  refine ⟨v', rfl, ?_, hb⟩
  rw [List.length_append, Lib.byteCells_append]
  exact ho
theorem row_shown {w : World} {B n : Nat} {t : TypeId} {v : Value} {xs : List Value} (h : w.ownsRow B t 1 v n xs) : ∃ a c, v = .slice a n c := by
  rcases h.2 with ⟨e, h0⟩ | ⟨g, cap, cur, e, -⟩
  · subst h0; exact ⟨_, _, e⟩
  · exact ⟨_, _, e⟩
end Go.Proofs.YtlogjmjoegnkbaaDoor

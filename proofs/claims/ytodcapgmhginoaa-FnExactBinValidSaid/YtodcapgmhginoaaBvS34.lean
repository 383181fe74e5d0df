/- Three closed facts of the program as a whole that all rows ask. -/
import Derived.Test.YtodcapgmhginoaaProg
import Derived.JoinedOf
import Derived.KernelRfl
namespace Go.Proofs.Ytodcapgmhginoaa
open Go

theorem fact_enter : Try.prog.mayEnter = true := by kernel_rfl
theorem fact_lifts : (false == Try.prog.liftsFinal) = true := by kernel_rfl
theorem fact_make : (Try.prog.make == some Make.cut) = true := by kernel_rfl
theorem band {a b : Bool} (h1 : a = true) (h2 : b = true) : (a && b) = true := by rw [h1, h2]; rfl
end Go.Proofs.Ytodcapgmhginoaa

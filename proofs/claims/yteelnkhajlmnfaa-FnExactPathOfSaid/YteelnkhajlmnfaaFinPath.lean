/- For every tree in memory and every int, the law on PathOf returns true and leaves its arguments as they were; no conditions. -/
import Derived.Test.YteelnkhajlmnfaaRows
import Derived.Test.YteelnkhajlmnfaaImPath
import Derived.Test.YteelnkhajlmnfaaRowPath
namespace Go.Proofs.Yteelnkhajlmnfaa

theorem path_of_said : Rows.FnExactPathOfSaid := exPathOf.proved (fun _ _ _ _ _ n ht hw _ _ w' hb hB => impl_path ht hw n w' hb hB)
end Go.Proofs.Yteelnkhajlmnfaa

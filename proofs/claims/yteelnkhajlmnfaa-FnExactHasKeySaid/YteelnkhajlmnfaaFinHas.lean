/- For every tree in memory and every int, the law on HasKey returns true and leaves its arguments as they were; no conditions. -/
import Derived.Test.YteelnkhajlmnfaaRows
import Derived.Test.YteelnkhajlmnfaaHasSpec
import Derived.Test.YteelnkhajlmnfaaRowHas
namespace Go.Proofs.Yteelnkhajlmnfaa

theorem has_key_said : Rows.FnExactHasKeySaid := exHasKey.proved (fun _ _ _ _ _ n ht hw _ _ w' hb hB => impl_has ht hw n w' hb hB)
end Go.Proofs.Yteelnkhajlmnfaa

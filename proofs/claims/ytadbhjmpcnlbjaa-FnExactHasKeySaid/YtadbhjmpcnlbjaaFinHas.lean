/- For every tree in memory and every int, the law on HasKey returns true and leaves its arguments as they were; no conditions. -/
import Derived.Test.YtadbhjmpcnlbjaaRows
import Derived.Test.YtadbhjmpcnlbjaaHasSpec
import Derived.Test.YtadbhjmpcnlbjaaRowHas
namespace Go.Proofs.Ytadbhjmpcnlbjaa

theorem has_key_said : Rows.FnExactHasKeySaid := exHasKey.proved (fun _ _ _ _ _ n ht hw _ _ w' hb hB => impl_has ht hw n w' hb hB)
end Go.Proofs.Ytadbhjmpcnlbjaa

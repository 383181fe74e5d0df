/- For every two trees in memory, the law on CountCommon returns true and leaves its arguments as they were; no conditions. -/
import Derived.Test.YtepkigcbjepbpaaRows
import Derived.Test.YtepkigcbjepbpaaCommon
import Derived.Test.YtepkigcbjepbpaaRowCommon
namespace Go.Proofs.Ytepkigcbjepbpaa

theorem count_common_said : Rows.FnExactCountCommonSaid := exCountCommon.proved (fun _ _ _ _ _ _ _ _ hn hw ht hu _ hb => impl_common ((hn.a hw).later hb (Nat.le_refl _)) hw ((ht.later hb (Nat.le_refl _)).wider hb.size) hu)
end Go.Proofs.Ytepkigcbjepbpaa

/- The table that strconv reads: it stays where old blocks stay; strconv.Itoa, and strconv.Atoi, as this program has them. -/
import Derived.Test.YtflkinglgnkchaaDoorBase
import Derived.Lib.LaidTab
import Derived.Lib.ItoaNum
namespace Go.Proofs.YtflkinglgnkchaaDoor
open Go.RowKit

/-- The table that strconv reads. -/
abbrev Tab (w : World) : Prop := Lib.TabIs Tryd.prog w "internal/strconv.uint64pow10" .u64 Lib.pow10Tab
theorem tab_num : Tryd.prog.globalNamed "internal/strconv.uint64pow10" = some 2 := by kernel_rfl
theorem Tab.keep {S : Nat → Prop} {w w' : World} (h : Tab w) (k : Keep S w w') (hS : ¬ S 2) : Tab w' := var_old tab_num h (fun hl => k.block _ hl hS)
theorem Tab.old {w w' : World} (h : Tab w) (k : Old w w') : Tab w' := var_old tab_num h (fun hl => k.block _ hl)
end Go.Proofs.YtflkinglgnkchaaDoor

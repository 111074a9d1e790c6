import Derived.Test.YtilfmmjjiiabgaaClkF
import Derived.Test.YtilfmmjjiiabgaaClkD
import Derived.Test.YtilfmmjjiiabgaaRows
import Derived.Test.YtilfmmjjiiabgaaLib
import Derived.Test.YtilfmmjjiiabgaaNumMath
import Derived.Lib.SlTrimSet
import Derived.Test.YtilfmmjjiiabgaaClkShelf
import Derived.WalkSpells
import Derived.Lib.IndexBytes
import Derived.Test.YtilfmmjjiiabgaaClkTxt
import Derived.Lib.AppendIntMem
namespace Go.Proofs.Ytilfmmjjiiabgaa.ClkC
open Go.RowKit Go.My Flt NumMath Txt Go.Shelf

/-- The table of powers of ten lies as the program's text lays it. -/
def Pow (w : World) : Prop := Lib.TabIs Try.prog w "internal/strconv.uint64pow10" .u64 Lib.pow10Tab
theorem Pow.below {w w' : World} (h : Pow w) (hb : Below w.heap.size w w') : Pow w' := by
  unfold Pow Lib.TabIs World.var? at *
  cases hg : Try.prog.globalNamed "internal/strconv.uint64pow10" with
  | none => rw [hg] at h; cases h
  | some g =>
    rw [hg] at h
    simp only [Option.bind_some] at h ⊢
    by_cases hlt : g < w.heap.size
    · rw [hb.block g hlt]; exact h
    · rw [Array.getElem?_eq_none (by omega)] at h; cases h
end Go.Proofs.Ytilfmmjjiiabgaa.ClkC

import Derived.Test.YtdbcendnibgcaaaDoorRows
import Derived.Test.YtdbcendnibgcaaaDoorMgAa
import Derived.Test.YtdbcendnibgcaaaDoorMgAe
import Derived.Laws.Externs

section
namespace Go.Proofs.YtdbcendnibgcaaaDoor.ClkC
open Go.RowKit Go.My Flt

theorem f_gt (x y : Nat) : (FloatKind.f64.format.order x y == some .gt) = (!isNaN x && !isNaN y && decide (K y < K x)) := cmp_gt x y
end Go.Proofs.YtdbcendnibgcaaaDoor.ClkC
end

section
/-
  The proleptic Gregorian calendar as plain arithmetic: no program, no dump.
-/
namespace Go.My.Clk

def ahead (y : Int) : Int := y * 365 + (y - 1) / 4 - (y - 1) / 100 + (y - 1) / 400 + 1
/-- Days from 1970 to a year's beginning. -/
def d2 (y : Int) : Int := ahead y - 719528
end Go.My.Clk
end

section
namespace Go.Proofs.YtdbcendnibgcaaaDoor.ClkC
open Go.RowKit Go.My Clk

end Go.Proofs.YtdbcendnibgcaaaDoor.ClkC
end

import Derived.Test.YtdbcendnibgcaaaDoorMgAf
import Derived.Laws.Rows
import Derived.Laws.CopyOwn

section
namespace Go.Proofs.YtdbcendnibgcaaaDoor.ClkC
open Go.RowKit Go.My Clk

end Go.Proofs.YtdbcendnibgcaaaDoor.ClkC
end

section
namespace Go.Proofs.YtdbcendnibgcaaaDoor.ClkC
open Go.RowKit Go.My Clk

end Go.Proofs.YtdbcendnibgcaaaDoor.ClkC
end

import Derived.Test.YtilfmmjjiiabgaaClkF
import Derived.Test.YtilfmmjjiiabgaaRows
import Derived.Test.YtilfmmjjiiabgaaLib
import Derived.Test.YtilfmmjjiiabgaaClk
import Derived.Laws.Rows
import Derived.Laws.CopyOwn
import Derived.Test.YtilfmmjjiiabgaaLater
import Derived.Laws.StructEq
namespace Go.Proofs.Ytilfmmjjiiabgaa.ClkC
open Go.RowKit Go.My Flt Clk

theorem r_int {x : Nat} {n : Int} (hx : fin x) (h : Int.tdiv (K x) (U : Int) = n) (h1 : -9223372036854775808 ≤ n) (h2 : n ≤ 9223372036854775807) (w : World) :
    (convert 23 3 (.float .f64 x)).run Try.prog w = .ok (.int .i64 n) w := by
  refine run_convert_float_int w _ _ .f64 .i64 x n (by kernel_rfl) Try.underlying3 ?_
  have ht : (FloatKind.f64.decode x).toInt .zero = some n := by rw [← h]; exact toInt_K x hx
  unfold floatToIntVal
  simp only [ht]
  rw [if_pos ⟨h1, h2⟩]
end Go.Proofs.Ytilfmmjjiiabgaa.ClkC

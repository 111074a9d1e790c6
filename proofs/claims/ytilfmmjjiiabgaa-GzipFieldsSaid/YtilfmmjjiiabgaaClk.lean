/-
  The proleptic Gregorian calendar as plain arithmetic: no program, no dump.
-/
namespace Go.My.Clk

def ahead (y : Int) : Int := y * 365 + (y - 1) / 4 - (y - 1) / 100 + (y - 1) / 400 + 1
/-- Days from 1970 to a year's beginning. -/
def d2 (y : Int) : Int := ahead y - 719528
end Go.My.Clk

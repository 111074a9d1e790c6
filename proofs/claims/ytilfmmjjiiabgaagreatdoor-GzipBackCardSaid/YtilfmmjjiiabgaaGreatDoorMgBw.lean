import Derived.Test.YtilfmmjjiiabgaaGreatDoorMgAk
import Derived.Test.YtilfmmjjiiabgaaGreatDoorMgAc
import Derived.Test.YtilfmmjjiiabgaaGreatDoorMgLt

section
/-
  The document's own reading of a header: text, Read.
-/
namespace Go.Proofs.YtilfmmjjiiabgaaGreatDoor.GzC
open Go.RowKit Go.My GzMath CrcMath
open Go.My.NumMath (num_lt)

/-- The zero header's cells. -/
def zeroC : Array Value := #[.bool false, .string ⟨#[]⟩, .float .f64 0]
section
variable {w W W' : World} {a : Option Addr} {len cap : Nat} {l : List UInt8} {g2 : Nat}
end
end Go.Proofs.YtilfmmjjiiabgaaGreatDoor.GzC
end

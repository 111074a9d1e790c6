/-
  Numbers of parts of 512 as decimal texts, and back: no program, no dump.
-/
import Derived.Test.YtilfmmjjiiabgaaNumMath
import Derived.Lib.SlTrimSet
import Derived.Lib.ItoaNum
import Derived.Lib.TrimByte
import Derived.Lib.Repeat
namespace Go.My.Txt
open NumMath

def chr (u : Nat) : UInt8 := UInt8.ofNat (48 + u)
def dg : Nat → Nat → List UInt8
  | 0, _ => []
  | n + 1, u => if u < 10 then [chr u] else dg n (u / 10) ++ [chr (u % 10)]
/-! ### reading -/
def neg (l : List UInt8) : Bool := l.head? == some 45
def num (l : List UInt8) : List UInt8 := if neg l then l.tail else l
def rest (l : List UInt8) : List UInt8 := (num l).dropWhile (· != 46)
end Go.My.Txt

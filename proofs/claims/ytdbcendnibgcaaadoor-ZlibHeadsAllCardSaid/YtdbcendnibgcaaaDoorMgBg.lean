import Derived.Test.YtdbcendnibgcaaaDoorMgBd

section
/-
  inflate's machine with more bits behind. No program, no dump.
-/
namespace InfMath
open BitMath CanMath TabMath WinMath

/-- Codes that tell the end of what is no code. -/
def Tells (ls : List Nat) : Prop := kd ls ≤ 2
/-- The codes in use are good ones. -/
structure Gd (s : M) : Prop where
  hc : s.next = 8 → ∃ hs, s.hcode = some hs ∧ Tells hs
  ld : s.next = 9 ∨ s.next = 10 → ∃ l d, s.lit = some l ∧ s.dist = some d ∧ Tells l ∧ Tells d
end InfMath
end

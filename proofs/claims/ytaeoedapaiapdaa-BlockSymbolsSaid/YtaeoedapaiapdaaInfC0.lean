/-
  What Base, Far answer (no program's function).
-/
import Derived.Test.YtaeoedapaiapdaaRows
import Derived.Test.YtaeoedapaiapdaaInfOk
import Derived.Test.YtaeoedapaiapdaaCanD
namespace Go.Proofs.Ytaeoedapaiapdaa.InfC
open Go.RowKit Go.My BitMath CanMath TabMath WinMath CanC
open InfMath (M Ok Steps Ends CodeOk mu lack fixL fixD)

/-- What Base, Far answer. -/
def ansB (o : Option (Nat × Nat)) : Value := match o with | none => .tuple #[.int .i64 0, .int .i64 0, .bool false] | some (l, x) => .tuple #[.int .i64 (l : Int), .int .i64 (x : Int), .bool true]
def baseZ (z : Int) (wide : Bool) : Option (Nat × Nat) := if z < 0 then none else InfMath.base z.toNat wide
def farZ (z : Int) (wide : Bool) : Option (Nat × Nat) := if z < 0 then none else InfMath.far z.toNat wide
theorem baseZ_nat (v : Nat) (wide : Bool) : baseZ (v : Int) wide = InfMath.base v wide := by unfold baseZ; rw [if_neg (by omega), Int.toNat_natCast]
theorem farZ_nat (v : Nat) (wide : Bool) : farZ (v : Int) wide = InfMath.far v wide := by unfold farZ; rw [if_neg (by omega), Int.toNat_natCast]

theorem lastD_le (wide : Bool) : InfMath.lastD wide ≤ 31 := by cases wide <;> decide

theorem kind_kd (l : List Nat) : CanC.kindN l = ((InfMath.kd l : Nat) : Int) := by
  unfold CanC.kindN InfMath.kd
  repeat' split
  all_goals rfl
end Go.Proofs.Ytaeoedapaiapdaa.InfC

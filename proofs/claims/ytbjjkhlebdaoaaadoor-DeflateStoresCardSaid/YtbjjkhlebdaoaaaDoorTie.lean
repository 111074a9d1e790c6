/-
  DERIVED. GIVEN WITH THE SEED: THE PROGRAM's TIES (one call each: nine closed facts by the kernel) AND EACH ROW's TIE, after the 31st guide's Derived/Test/Toyas{Tie, Card}.lean. No idea stands in it: it is a product of the set-up. Laid BY PROGRAM, IN A SANDBOX (cutbox-door.mjs). By AI agents, Wed Nov 11 2026. No macro, syntax, notation, axiom, sorry.
-/
import Derived.Test.YtbjjkhlebdaoaaaDoorRows
import Derived.LaidByTextLater
import Derived.SevenTiedAt
import Derived.LaidSub
import Derived.LaidOnce
namespace Go.Proofs.YtbjjkhlebdaoaaaDoor
open Go
set_option maxRecDepth 100000
theorem seatTie1 : Tryd.prog.laidByTextLater [("stevedore/effort.plans", Rows.laid_stevedore_effort_plans), ("stevedore/block.order", Rows.laid_stevedore_block_order), ("stevedore/block.again", Rows.laid_stevedore_block_again), ("stevedore/block.someZeros", Rows.laid_stevedore_block_someZeros), ("stevedore/block.manyZeros", Rows.laid_stevedore_block_manyZeros)] [.data, .data, .data, .data, .data] true :=
  Program.laidByTextLater_by_one 44 8 41 (by kernel_rfl) (by kernel_rfl) (by kernel_rfl) (by kernel_rfl) (by kernel_rfl) (by kernel_rfl) (fun _ _ => by kernel_rfl)
theorem noOwnUnsafe : Tryd.pinned.checked.prog.headLifts.contains "ownunsafe" = false := by kernel_rfl
theorem tie : Tryd.prog.laidByTextLater [("stevedore/effort.plans", Rows.laid_stevedore_effort_plans), ("stevedore/block.order", Rows.laid_stevedore_block_order), ("stevedore/block.again", Rows.laid_stevedore_block_again), ("stevedore/block.someZeros", Rows.laid_stevedore_block_someZeros), ("stevedore/block.manyZeros", Rows.laid_stevedore_block_manyZeros)] [.data, .data, .data, .data, .data] true :=
  Program.laidByTextLater.sub seatTie1 ["stevedore/effort.plans", "stevedore/block.order", "stevedore/block.again", "stevedore/block.someZeros", "stevedore/block.manyZeros"] (by kernel_rfl) (by kernel_rfl)
theorem deflateStores_row_tie : Rows.deflateStoresRow.laidByTextAt .later Tryd.pinned [.data, .data, .data, .data, .data] true :=
  OpenClaim.laidByTextAt_later rfl rfl tie noOwnUnsafe
theorem deflateSame_row_tie : Rows.deflateSameRow.laidByTextAt .later Tryd.pinned [.data, .data, .data, .data, .data] true :=
  OpenClaim.laidByTextAt_later rfl rfl tie noOwnUnsafe
theorem deflateStoresUpto_row_tie : Rows.deflateStoresUptoRow.laidByTextAt .later Tryd.pinned [.data, .data, .data, .data, .data] true :=
  OpenClaim.laidByTextAt_later rfl rfl tie noOwnUnsafe
theorem deflateSameUpto_row_tie : Rows.deflateSameUptoRow.laidByTextAt .later Tryd.pinned [.data, .data, .data, .data, .data] true :=
  OpenClaim.laidByTextAt_later rfl rfl tie noOwnUnsafe
end Go.Proofs.YtbjjkhlebdaoaaaDoor

/-
  DERIVED. GIVEN WITH THE SEED: THE CARDS: each row of YtaeoedapaiapdaaDoorRows.lean that lists a variable, with what it lists TIED to the program's text (the seventh form; the later family's looks); each row that meets fmt, with fmt's text TOLD by the authors' own Lean function (tested against real Go, not proved from fmt's source: count such statements apart). THE CARD IS WHAT COUNTS. Prove the row's statement (the work); the ties are given (YtaeoedapaiapdaaDoorTie.lean); close each card by the builder's one call (the guide's Derived/Test/ToyasCard.lean, 'card_holds'). Laid BY PROGRAM, IN A SANDBOX (cutbox-door.mjs). By AI agents, Wed Nov 11 2026. No macro, syntax, notation, axiom, sorry.
-/
import Derived.Test.YtaeoedapaiapdaaDoorRows
import GoSem.ClaimSeven
namespace Go.Proofs.YtaeoedapaiapdaaDoor
namespace Rows

/-- THE TIED CARD OF 'stevedorelaw14.BlockNobody'. -/
def blockNobodyCard : Claim7 := { stood := { row := blockNobodyRow, standIns := [], harness := (true, "1c2cd43f136fc29a0e72f26753c8492278045bbe2ffd519e8f205ef53db0300a"), looks := true }, kinds := [], alts := [], laidByText := true, laidKinds := [.data, .data, .data, .data], laidTests := true, laidLooks := .later }
def BlockNobodyCardSaid : Prop := Claim7.holds Tryd.pinned (.plain (OpenSpec.ofChange blockNobodySpec)) blockNobodyCard

/-- THE SECOND FORM's CARD OF 'stevedorelaw14.BlockNobody'. -/
def blockNobodyUptoCard : Claim7 := { stood := { row := blockNobodyUptoRow, standIns := [], harness := (true, "1c2cd43f136fc29a0e72f26753c8492278045bbe2ffd519e8f205ef53db0300a"), looks := true }, kinds := [], alts := [], laidByText := true, laidKinds := [.data, .data, .data, .data], laidTests := true, laidLooks := .later }
def BlockNobodyUptoCardSaid : Prop := Claim7.holds Tryd.pinned (.plain (OpenSpec.upto blockNobodySpec)) blockNobodyUptoCard
end Rows
end Go.Proofs.YtaeoedapaiapdaaDoor

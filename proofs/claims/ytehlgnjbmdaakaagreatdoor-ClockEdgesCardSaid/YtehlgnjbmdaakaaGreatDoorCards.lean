/-
  DERIVED. GIVEN WITH THE SEED: THE CARDS: each row of YtehlgnjbmdaakaaGreatDoorRows.lean that lists a variable, with what it lists TIED to the program's text (the seventh form; the later family's looks); each row that meets fmt, with fmt's text TOLD by the authors' own Lean function (tested against real Go, not proved from fmt's source: count such statements apart). THE CARD IS WHAT COUNTS. Prove the row's statement (the work); the ties are given (YtehlgnjbmdaakaaGreatDoorTie.lean); close each card by the builder's one call (the guide's Derived/Test/ToyasCard.lean, 'card_holds'). Laid BY PROGRAM, IN A SANDBOX (cutbox-door.mjs). By AI agents, Wed Nov 11 2026. No macro, syntax, notation, axiom, sorry.
-/
import Derived.Test.YtehlgnjbmdaakaaGreatDoorRows
import GoSem.ClaimSeven
namespace Go.Proofs.YtehlgnjbmdaakaaGreatDoor
namespace Rows

/-- THE TIED CARD OF 'stevedorelaw4.ClockEdges'. -/
def clockEdgesCard : Claim7 := { stood := { row := clockEdgesRow, standIns := [], harness := (true, "9217a995b3d5fabc48152b3c35db7c33dae5b929b63d719ce253d199e84f8db0"), looks := false }, kinds := [], alts := [], laidByText := true, laidKinds := [.data, .data, .data, .data, .pinned], laidTests := true, laidLooks := .later }
def ClockEdgesCardSaid : Prop := Claim7.holds Tryz.pinned (.plain (OpenSpec.ofChange clockEdgesSpec)) clockEdgesCard

/-- THE SECOND FORM's CARD OF 'stevedorelaw4.ClockEdges'. -/
def clockEdgesUptoCard : Claim7 := { stood := { row := clockEdgesUptoRow, standIns := [], harness := (true, "9217a995b3d5fabc48152b3c35db7c33dae5b929b63d719ce253d199e84f8db0"), looks := false }, kinds := [], alts := [], laidByText := true, laidKinds := [.data, .data, .data, .data, .pinned], laidTests := true, laidLooks := .later }
def ClockEdgesUptoCardSaid : Prop := Claim7.holds Tryz.pinned (.plain (OpenSpec.upto clockEdgesSpec)) clockEdgesUptoCard
end Rows
end Go.Proofs.YtehlgnjbmdaakaaGreatDoor

/-
  DERIVED. GIVEN WITH THE SEED: THE CARDS: each row of YtilfmmjjiiabgaaGreatDoorRows.lean that lists a variable, with what it lists TIED to the program's text (the seventh form; the later family's looks); each row that meets fmt, with fmt's text TOLD by the authors' own Lean function (tested against real Go, not proved from fmt's source: count such statements apart). THE CARD IS WHAT COUNTS. Prove the row's statement (the work); the ties are given (YtilfmmjjiiabgaaGreatDoorTie.lean); close each card by the builder's one call (the guide's Derived/Test/ToyasCard.lean, 'card_holds'). Laid BY PROGRAM, IN A SANDBOX (cutbox-door.mjs). By AI agents, Wed Nov 11 2026. No macro, syntax, notation, axiom, sorry.
-/
import Derived.Test.YtilfmmjjiiabgaaGreatDoorRows
import GoSem.ClaimSeven
namespace Go.Proofs.YtilfmmjjiiabgaaGreatDoor
namespace Rows

/-- THE TIED CARD OF 'stevedorelaw17.GzipBack'. -/
def gzipBackCard : Claim7 := { stood := { row := gzipBackRow, standIns := [], harness := (true, "4f7966f61d179cf395ed3bdfbc85cb1323dfda168e09f17cb700c8c9b9f13dbe"), looks := true }, kinds := [], alts := [], laidByText := true, laidKinds := [.data], laidTests := true, laidLooks := .later }
def GzipBackCardSaid : Prop := Claim7.holds Tryz.pinned (.plain (OpenSpec.ofChange gzipBackSpec)) gzipBackCard

/-- THE TIED CARD OF 'stevedorelaw17.GzipTurned'. -/
def gzipTurnedCard : Claim7 := { stood := { row := gzipTurnedRow, standIns := [], harness := (true, "4f7966f61d179cf395ed3bdfbc85cb1323dfda168e09f17cb700c8c9b9f13dbe"), looks := true }, kinds := [], alts := [], laidByText := true, laidKinds := [.data], laidTests := true, laidLooks := .later }
def GzipTurnedCardSaid : Prop := Claim7.holds Tryz.pinned (.plain (OpenSpec.ofChange gzipTurnedSpec)) gzipTurnedCard

/-- THE TIED CARD OF 'stevedorelaw17.GzipTotal'. -/
def gzipTotalCard : Claim7 := { stood := { row := gzipTotalRow, standIns := [], harness := (true, "4f7966f61d179cf395ed3bdfbc85cb1323dfda168e09f17cb700c8c9b9f13dbe"), looks := true }, kinds := [], alts := [], laidByText := true, laidKinds := [.data], laidTests := true, laidLooks := .later }
def GzipTotalCardSaid : Prop := Claim7.holds Tryz.pinned (.plain (OpenSpec.ofChange gzipTotalSpec)) gzipTotalCard

/-- THE SECOND FORM's CARD OF 'stevedorelaw17.GzipBack'. -/
def gzipBackUptoCard : Claim7 := { stood := { row := gzipBackUptoRow, standIns := [], harness := (true, "4f7966f61d179cf395ed3bdfbc85cb1323dfda168e09f17cb700c8c9b9f13dbe"), looks := true }, kinds := [], alts := [], laidByText := true, laidKinds := [.data], laidTests := true, laidLooks := .later }
def GzipBackUptoCardSaid : Prop := Claim7.holds Tryz.pinned (.plain (OpenSpec.upto gzipBackSpec)) gzipBackUptoCard

/-- THE SECOND FORM's CARD OF 'stevedorelaw17.GzipTurned'. -/
def gzipTurnedUptoCard : Claim7 := { stood := { row := gzipTurnedUptoRow, standIns := [], harness := (true, "4f7966f61d179cf395ed3bdfbc85cb1323dfda168e09f17cb700c8c9b9f13dbe"), looks := true }, kinds := [], alts := [], laidByText := true, laidKinds := [.data], laidTests := true, laidLooks := .later }
def GzipTurnedUptoCardSaid : Prop := Claim7.holds Tryz.pinned (.plain (OpenSpec.upto gzipTurnedSpec)) gzipTurnedUptoCard

/-- THE SECOND FORM's CARD OF 'stevedorelaw17.GzipTotal'. -/
def gzipTotalUptoCard : Claim7 := { stood := { row := gzipTotalUptoRow, standIns := [], harness := (true, "4f7966f61d179cf395ed3bdfbc85cb1323dfda168e09f17cb700c8c9b9f13dbe"), looks := true }, kinds := [], alts := [], laidByText := true, laidKinds := [.data], laidTests := true, laidLooks := .later }
def GzipTotalUptoCardSaid : Prop := Claim7.holds Tryz.pinned (.plain (OpenSpec.upto gzipTotalSpec)) gzipTotalUptoCard
end Rows
end Go.Proofs.YtilfmmjjiiabgaaGreatDoor

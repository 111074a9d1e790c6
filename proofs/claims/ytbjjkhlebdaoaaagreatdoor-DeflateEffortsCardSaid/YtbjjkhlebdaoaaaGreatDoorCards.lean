/-
  DERIVED. GIVEN WITH THE SEED: THE CARDS: each row of YtbjjkhlebdaoaaaGreatDoorRows.lean that lists a variable, with what it lists TIED to the program's text (the seventh form; the later family's looks); each row that meets fmt, with fmt's text TOLD by the authors' own Lean function (tested against real Go, not proved from fmt's source: count such statements apart). THE CARD IS WHAT COUNTS. Prove the row's statement (the work); the ties are given (YtbjjkhlebdaoaaaGreatDoorTie.lean); close each card by the builder's one call (the guide's Derived/Test/ToyasCard.lean, 'card_holds'). Laid BY PROGRAM, IN A SANDBOX (cutbox-door.mjs). By AI agents, Wed Nov 11 2026. No macro, syntax, notation, axiom, sorry.
-/
import Derived.Test.YtbjjkhlebdaoaaaGreatDoorRows
import GoSem.ClaimSeven
namespace Go.Proofs.YtbjjkhlebdaoaaaGreatDoor
namespace Rows

/-- THE TIED CARD OF 'stevedorelaw16.DeflateBack'. -/
def deflateBackCard : Claim7 := { stood := { row := deflateBackRow, standIns := [], harness := (true, "ac4f404430a85ada76fd843ee786c46765bda3d4e5ded6d3097e6764c97d9d49"), looks := true }, kinds := [], alts := [], laidByText := true, laidKinds := [.data, .data, .data, .data, .data], laidTests := true, laidLooks := .later }
def DeflateBackCardSaid : Prop := Claim7.holds Tryz.pinned (.plain (OpenSpec.ofChange deflateBackSpec)) deflateBackCard

/-- THE TIED CARD OF 'stevedorelaw16.DeflateEfforts'. -/
def deflateEffortsCard : Claim7 := { stood := { row := deflateEffortsRow, standIns := [], harness := (true, "ac4f404430a85ada76fd843ee786c46765bda3d4e5ded6d3097e6764c97d9d49"), looks := true }, kinds := [], alts := [], laidByText := true, laidKinds := [.data, .data, .data, .data, .data], laidTests := true, laidLooks := .later }
def DeflateEffortsCardSaid : Prop := Claim7.holds Tryz.pinned (.plain (OpenSpec.ofChange deflateEffortsSpec)) deflateEffortsCard

/-- THE SECOND FORM's CARD OF 'stevedorelaw16.DeflateBack'. -/
def deflateBackUptoCard : Claim7 := { stood := { row := deflateBackUptoRow, standIns := [], harness := (true, "ac4f404430a85ada76fd843ee786c46765bda3d4e5ded6d3097e6764c97d9d49"), looks := true }, kinds := [], alts := [], laidByText := true, laidKinds := [.data, .data, .data, .data, .data], laidTests := true, laidLooks := .later }
def DeflateBackUptoCardSaid : Prop := Claim7.holds Tryz.pinned (.plain (OpenSpec.upto deflateBackSpec)) deflateBackUptoCard

/-- THE SECOND FORM's CARD OF 'stevedorelaw16.DeflateEfforts'. -/
def deflateEffortsUptoCard : Claim7 := { stood := { row := deflateEffortsUptoRow, standIns := [], harness := (true, "ac4f404430a85ada76fd843ee786c46765bda3d4e5ded6d3097e6764c97d9d49"), looks := true }, kinds := [], alts := [], laidByText := true, laidKinds := [.data, .data, .data, .data, .data], laidTests := true, laidLooks := .later }
def DeflateEffortsUptoCardSaid : Prop := Claim7.holds Tryz.pinned (.plain (OpenSpec.upto deflateEffortsSpec)) deflateEffortsUptoCard
end Rows
end Go.Proofs.YtbjjkhlebdaoaaaGreatDoor

/-
  DERIVED. GIVEN WITH THE SEED: THE CARDS: each row of YtbjjkhlebdaoaaaDoorRows.lean that lists a variable, with what it lists TIED to the program's text (the seventh form; the later family's looks); each row that meets fmt, with fmt's text TOLD by the authors' own Lean function (tested against real Go, not proved from fmt's source: count such statements apart). THE CARD IS WHAT COUNTS. Prove the row's statement (the work); the ties are given (YtbjjkhlebdaoaaaDoorTie.lean); close each card by the builder's one call (the guide's Derived/Test/ToyasCard.lean, 'card_holds'). Laid BY PROGRAM, IN A SANDBOX (cutbox-door.mjs). By AI agents, Wed Nov 11 2026. No macro, syntax, notation, axiom, sorry.
-/
import Derived.Test.YtbjjkhlebdaoaaaDoorRows
import GoSem.ClaimSeven
namespace Go.Proofs.YtbjjkhlebdaoaaaDoor
namespace Rows

/-- THE TIED CARD OF 'stevedorelaw16.DeflateStores'. -/
def deflateStoresCard : Claim7 := { stood := { row := deflateStoresRow, standIns := [], harness := (true, "11bb48dda4c4bbdf54c4c1dcb628a708ed4c967b963217944056b8f8fe5116e0"), looks := true }, kinds := [], alts := [], laidByText := true, laidKinds := [.data, .data, .data, .data, .data], laidTests := true, laidLooks := .later }
def DeflateStoresCardSaid : Prop := Claim7.holds Tryd.pinned (.plain (OpenSpec.ofChange deflateStoresSpec)) deflateStoresCard

/-- THE TIED CARD OF 'stevedorelaw16.DeflateSame'. -/
def deflateSameCard : Claim7 := { stood := { row := deflateSameRow, standIns := [], harness := (true, "11bb48dda4c4bbdf54c4c1dcb628a708ed4c967b963217944056b8f8fe5116e0"), looks := true }, kinds := [], alts := [], laidByText := true, laidKinds := [.data, .data, .data, .data, .data], laidTests := true, laidLooks := .later }
def DeflateSameCardSaid : Prop := Claim7.holds Tryd.pinned (.plain (OpenSpec.ofChange deflateSameSpec)) deflateSameCard

/-- THE SECOND FORM's CARD OF 'stevedorelaw16.DeflateStores'. -/
def deflateStoresUptoCard : Claim7 := { stood := { row := deflateStoresUptoRow, standIns := [], harness := (true, "11bb48dda4c4bbdf54c4c1dcb628a708ed4c967b963217944056b8f8fe5116e0"), looks := true }, kinds := [], alts := [], laidByText := true, laidKinds := [.data, .data, .data, .data, .data], laidTests := true, laidLooks := .later }
def DeflateStoresUptoCardSaid : Prop := Claim7.holds Tryd.pinned (.plain (OpenSpec.upto deflateStoresSpec)) deflateStoresUptoCard

/-- THE SECOND FORM's CARD OF 'stevedorelaw16.DeflateSame'. -/
def deflateSameUptoCard : Claim7 := { stood := { row := deflateSameUptoRow, standIns := [], harness := (true, "11bb48dda4c4bbdf54c4c1dcb628a708ed4c967b963217944056b8f8fe5116e0"), looks := true }, kinds := [], alts := [], laidByText := true, laidKinds := [.data, .data, .data, .data, .data], laidTests := true, laidLooks := .later }
def DeflateSameUptoCardSaid : Prop := Claim7.holds Tryd.pinned (.plain (OpenSpec.upto deflateSameSpec)) deflateSameUptoCard
end Rows
end Go.Proofs.YtbjjkhlebdaoaaaDoor

/-
  DERIVED. GIVEN WITH THE SEED: THE CARDS: each row of YtkaagenmkjkaeaaDoorRows.lean that lists a variable, with what it lists TIED to the program's text (the seventh form; the later family's looks); each row that meets fmt, with fmt's text TOLD by the authors' own Lean function (tested against real Go, not proved from fmt's source: count such statements apart). THE CARD IS WHAT COUNTS. Prove the row's statement (the work); the ties are given (YtkaagenmkjkaeaaDoorTie.lean); close each card by the builder's one call (the guide's Derived/Test/ToyasCard.lean, 'card_holds'). Laid BY PROGRAM, IN A SANDBOX (cutbox-door.mjs). By AI agents, Wed Nov 11 2026. No macro, syntax, notation, axiom, sorry.
-/
import Derived.Test.YtkaagenmkjkaeaaDoorRows
import GoSem.ClaimSeven
namespace Go.Proofs.YtkaagenmkjkaeaaDoor
namespace Rows

/-- THE TIED CARD OF 'stevedorelaw12.InflateSymbols'. -/
def inflateSymbolsCard : Claim7 := { stood := { row := inflateSymbolsRow, standIns := [], harness := (true, "12527666ab3c4ac68f80969721502639fe1e5bff1ae812c276314ed0a0736539"), looks := true }, kinds := [], alts := [], laidByText := true, laidKinds := [.data], laidTests := true, laidLooks := .later }
def InflateSymbolsCardSaid : Prop := Claim7.holds Tryd.pinned (.plain (OpenSpec.ofChange inflateSymbolsSpec)) inflateSymbolsCard

/-- THE TIED CARD OF 'stevedorelaw12.InflateStored'. -/
def inflateStoredCard : Claim7 := { stood := { row := inflateStoredRow, standIns := [], harness := (true, "12527666ab3c4ac68f80969721502639fe1e5bff1ae812c276314ed0a0736539"), looks := true }, kinds := [], alts := [], laidByText := true, laidKinds := [.data], laidTests := true, laidLooks := .later }
def InflateStoredCardSaid : Prop := Claim7.holds Tryd.pinned (.plain (OpenSpec.ofChange inflateStoredSpec)) inflateStoredCard

/-- THE TIED CARD OF 'stevedorelaw12.InflateFixed'. -/
def inflateFixedCard : Claim7 := { stood := { row := inflateFixedRow, standIns := [], harness := (true, "12527666ab3c4ac68f80969721502639fe1e5bff1ae812c276314ed0a0736539"), looks := true }, kinds := [], alts := [], laidByText := true, laidKinds := [.data], laidTests := true, laidLooks := .later }
def InflateFixedCardSaid : Prop := Claim7.holds Tryd.pinned (.plain (OpenSpec.ofChange inflateFixedSpec)) inflateFixedCard

/-- THE TIED CARD OF 'stevedorelaw12.InflateBounds'. -/
def inflateBoundsCard : Claim7 := { stood := { row := inflateBoundsRow, standIns := [], harness := (true, "12527666ab3c4ac68f80969721502639fe1e5bff1ae812c276314ed0a0736539"), looks := true }, kinds := [], alts := [], laidByText := true, laidKinds := [.data], laidTests := true, laidLooks := .later }
def InflateBoundsCardSaid : Prop := Claim7.holds Tryd.pinned (.plain (OpenSpec.ofChange inflateBoundsSpec)) inflateBoundsCard

/-- THE TIED CARD OF 'stevedorelaw12.InflateKnown'. -/
def inflateKnownCard : Claim7 := { stood := { row := inflateKnownRow, standIns := [], harness := (true, "12527666ab3c4ac68f80969721502639fe1e5bff1ae812c276314ed0a0736539"), looks := true }, kinds := [], alts := [], laidByText := true, laidKinds := [.data], laidTests := true, laidLooks := .later }
def InflateKnownCardSaid : Prop := Claim7.holds Tryd.pinned (.plain (OpenSpec.ofChange inflateKnownSpec)) inflateKnownCard

/-- THE SECOND FORM's CARD OF 'stevedorelaw12.InflateSymbols'. -/
def inflateSymbolsUptoCard : Claim7 := { stood := { row := inflateSymbolsUptoRow, standIns := [], harness := (true, "12527666ab3c4ac68f80969721502639fe1e5bff1ae812c276314ed0a0736539"), looks := true }, kinds := [], alts := [], laidByText := true, laidKinds := [.data], laidTests := true, laidLooks := .later }
def InflateSymbolsUptoCardSaid : Prop := Claim7.holds Tryd.pinned (.plain (OpenSpec.upto inflateSymbolsSpec)) inflateSymbolsUptoCard

/-- THE SECOND FORM's CARD OF 'stevedorelaw12.InflateStored'. -/
def inflateStoredUptoCard : Claim7 := { stood := { row := inflateStoredUptoRow, standIns := [], harness := (true, "12527666ab3c4ac68f80969721502639fe1e5bff1ae812c276314ed0a0736539"), looks := true }, kinds := [], alts := [], laidByText := true, laidKinds := [.data], laidTests := true, laidLooks := .later }
def InflateStoredUptoCardSaid : Prop := Claim7.holds Tryd.pinned (.plain (OpenSpec.upto inflateStoredSpec)) inflateStoredUptoCard

/-- THE SECOND FORM's CARD OF 'stevedorelaw12.InflateFixed'. -/
def inflateFixedUptoCard : Claim7 := { stood := { row := inflateFixedUptoRow, standIns := [], harness := (true, "12527666ab3c4ac68f80969721502639fe1e5bff1ae812c276314ed0a0736539"), looks := true }, kinds := [], alts := [], laidByText := true, laidKinds := [.data], laidTests := true, laidLooks := .later }
def InflateFixedUptoCardSaid : Prop := Claim7.holds Tryd.pinned (.plain (OpenSpec.upto inflateFixedSpec)) inflateFixedUptoCard

/-- THE SECOND FORM's CARD OF 'stevedorelaw12.InflateBounds'. -/
def inflateBoundsUptoCard : Claim7 := { stood := { row := inflateBoundsUptoRow, standIns := [], harness := (true, "12527666ab3c4ac68f80969721502639fe1e5bff1ae812c276314ed0a0736539"), looks := true }, kinds := [], alts := [], laidByText := true, laidKinds := [.data], laidTests := true, laidLooks := .later }
def InflateBoundsUptoCardSaid : Prop := Claim7.holds Tryd.pinned (.plain (OpenSpec.upto inflateBoundsSpec)) inflateBoundsUptoCard

/-- THE SECOND FORM's CARD OF 'stevedorelaw12.InflateKnown'. -/
def inflateKnownUptoCard : Claim7 := { stood := { row := inflateKnownUptoRow, standIns := [], harness := (true, "12527666ab3c4ac68f80969721502639fe1e5bff1ae812c276314ed0a0736539"), looks := true }, kinds := [], alts := [], laidByText := true, laidKinds := [.data], laidTests := true, laidLooks := .later }
def InflateKnownUptoCardSaid : Prop := Claim7.holds Tryd.pinned (.plain (OpenSpec.upto inflateKnownSpec)) inflateKnownUptoCard
end Rows
end Go.Proofs.YtkaagenmkjkaeaaDoor

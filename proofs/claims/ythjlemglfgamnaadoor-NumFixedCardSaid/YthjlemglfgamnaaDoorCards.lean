/-
  DERIVED. GIVEN WITH THE SEED: THE CARDS: each row of YthjlemglfgamnaaDoorRows.lean that lists a variable, with what it lists TIED to the program's text (the seventh form; the later family's looks); each row that meets fmt, with fmt's text TOLD by the authors' own Lean function (tested against real Go, not proved from fmt's source: count such statements apart). THE CARD IS WHAT COUNTS. Prove the row's statement (the work); the ties are given (YthjlemglfgamnaaDoorTie.lean); close each card by the builder's one call (the guide's Derived/Test/ToyasCard.lean, 'card_holds'). Laid BY PROGRAM, IN A SANDBOX (cutbox-door.mjs). By AI agents, Wed Nov 11 2026. No macro, syntax, notation, axiom, sorry.
-/
import Derived.Test.YthjlemglfgamnaaDoorRows
import GoSem.ClaimSeven
namespace Go.Proofs.YthjlemglfgamnaaDoor
namespace Rows

/-- THE TIED CARD OF 'stevedorelaw3.NumFixed'. -/
def numFixedCard : Claim7 := { stood := { row := numFixedRow, standIns := [], harness := (true, "c0f1884865c70ce13777e9489c7325a5729a35243e5053dc90f8c2cc8bab5fd0"), looks := true }, kinds := [], alts := [], laidByText := true, laidKinds := [.data, .data, .data, .data, .pinned], laidTests := true, laidLooks := .later }
def NumFixedCardSaid : Prop := Claim7.holds Tryd.pinned (.plain (OpenSpec.ofChange numFixedSpec)) numFixedCard

/-- THE TIED CARD OF 'stevedorelaw3.NumOctal'. -/
def numOctalCard : Claim7 := { stood := { row := numOctalRow, standIns := [], harness := (true, "c0f1884865c70ce13777e9489c7325a5729a35243e5053dc90f8c2cc8bab5fd0"), looks := true }, kinds := [], alts := [], laidByText := true, laidKinds := [.data, .data, .data, .data, .pinned], laidTests := true, laidLooks := .later }
def NumOctalCardSaid : Prop := Claim7.holds Tryd.pinned (.plain (OpenSpec.ofChange numOctalSpec)) numOctalCard

/-- THE TIED CARD OF 'stevedorelaw3.NumTexts'. -/
def numTextsCard : Claim7 := { stood := { row := numTextsRow, standIns := [], harness := (true, "c0f1884865c70ce13777e9489c7325a5729a35243e5053dc90f8c2cc8bab5fd0"), looks := true }, kinds := [], alts := [], laidByText := true, laidKinds := [.data, .data, .data, .data, .pinned], laidTests := true, laidLooks := .later }
def NumTextsCardSaid : Prop := Claim7.holds Tryd.pinned (.plain (OpenSpec.ofChange numTextsSpec)) numTextsCard

/-- THE TIED CARD OF 'stevedorelaw3.NumBack'. -/
def numBackCard : Claim7 := { stood := { row := numBackRow, standIns := [], harness := (true, "c0f1884865c70ce13777e9489c7325a5729a35243e5053dc90f8c2cc8bab5fd0"), looks := true }, kinds := [], alts := [], laidByText := true, laidKinds := [.data, .data, .data, .data, .pinned], laidTests := true, laidLooks := .later }
def NumBackCardSaid : Prop := Claim7.holds Tryd.pinned (.plain (OpenSpec.ofChange numBackSpec)) numBackCard

/-- THE SECOND FORM's CARD OF 'stevedorelaw3.NumFixed'. -/
def numFixedUptoCard : Claim7 := { stood := { row := numFixedUptoRow, standIns := [], harness := (true, "c0f1884865c70ce13777e9489c7325a5729a35243e5053dc90f8c2cc8bab5fd0"), looks := true }, kinds := [], alts := [], laidByText := true, laidKinds := [.data, .data, .data, .data, .pinned], laidTests := true, laidLooks := .later }
def NumFixedUptoCardSaid : Prop := Claim7.holds Tryd.pinned (.plain (OpenSpec.upto numFixedSpec)) numFixedUptoCard

/-- THE SECOND FORM's CARD OF 'stevedorelaw3.NumOctal'. -/
def numOctalUptoCard : Claim7 := { stood := { row := numOctalUptoRow, standIns := [], harness := (true, "c0f1884865c70ce13777e9489c7325a5729a35243e5053dc90f8c2cc8bab5fd0"), looks := true }, kinds := [], alts := [], laidByText := true, laidKinds := [.data, .data, .data, .data, .pinned], laidTests := true, laidLooks := .later }
def NumOctalUptoCardSaid : Prop := Claim7.holds Tryd.pinned (.plain (OpenSpec.upto numOctalSpec)) numOctalUptoCard

/-- THE SECOND FORM's CARD OF 'stevedorelaw3.NumTexts'. -/
def numTextsUptoCard : Claim7 := { stood := { row := numTextsUptoRow, standIns := [], harness := (true, "c0f1884865c70ce13777e9489c7325a5729a35243e5053dc90f8c2cc8bab5fd0"), looks := true }, kinds := [], alts := [], laidByText := true, laidKinds := [.data, .data, .data, .data, .pinned], laidTests := true, laidLooks := .later }
def NumTextsUptoCardSaid : Prop := Claim7.holds Tryd.pinned (.plain (OpenSpec.upto numTextsSpec)) numTextsUptoCard

/-- THE SECOND FORM's CARD OF 'stevedorelaw3.NumBack'. -/
def numBackUptoCard : Claim7 := { stood := { row := numBackUptoRow, standIns := [], harness := (true, "c0f1884865c70ce13777e9489c7325a5729a35243e5053dc90f8c2cc8bab5fd0"), looks := true }, kinds := [], alts := [], laidByText := true, laidKinds := [.data, .data, .data, .data, .pinned], laidTests := true, laidLooks := .later }
def NumBackUptoCardSaid : Prop := Claim7.holds Tryd.pinned (.plain (OpenSpec.upto numBackSpec)) numBackUptoCard
end Rows
end Go.Proofs.YthjlemglfgamnaaDoor

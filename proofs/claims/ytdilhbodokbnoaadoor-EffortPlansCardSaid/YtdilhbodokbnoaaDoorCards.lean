/-
  DERIVED. GIVEN WITH THE SEED: THE CARDS: each row of YtdilhbodokbnoaaDoorRows.lean that lists a variable, with what it lists TIED to the program's text (the seventh form; the later family's looks); each row that meets fmt, with fmt's text TOLD by the authors' own Lean function (tested against real Go, not proved from fmt's source: count such statements apart). THE CARD IS WHAT COUNTS. Prove the row's statement (the work); the ties are given (YtdilhbodokbnoaaDoorTie.lean); close each card by the builder's one call (the guide's Derived/Test/ToyasCard.lean, 'card_holds'). Laid BY PROGRAM, IN A SANDBOX (cutbox-door.mjs). By AI agents, Wed Nov 11 2026. No macro, syntax, notation, axiom, sorry.
-/
import Derived.Test.YtdilhbodokbnoaaDoorRows
import GoSem.ClaimSeven
namespace Go.Proofs.YtdilhbodokbnoaaDoor
namespace Rows

/-- THE TIED CARD OF 'stevedorelaw15.EffortPlans'. -/
def effortPlansCard : Claim7 := { stood := { row := effortPlansRow, standIns := [], harness := (true, "135c2ca453a7f3c3c8ec9da4cbbd34ba3665a86f88218f120540a32c39a40929"), looks := false }, kinds := [], alts := [], laidByText := true, laidKinds := [.data], laidTests := true, laidLooks := .later }
def EffortPlansCardSaid : Prop := Claim7.holds Tryd.pinned (.plain (OpenSpec.ofChange effortPlansSpec)) effortPlansCard

/-- THE TIED CARD OF 'stevedorelaw15.EffortOrder'. -/
def effortOrderCard : Claim7 := { stood := { row := effortOrderRow, standIns := [], harness := (true, "135c2ca453a7f3c3c8ec9da4cbbd34ba3665a86f88218f120540a32c39a40929"), looks := false }, kinds := [], alts := [], laidByText := true, laidKinds := [.data], laidTests := true, laidLooks := .later }
def EffortOrderCardSaid : Prop := Claim7.holds Tryd.pinned (.plain (OpenSpec.ofChange effortOrderSpec)) effortOrderCard

/-- THE TIED CARD OF 'stevedorelaw15.EffortWhole'. -/
def effortWholeCard : Claim7 := { stood := { row := effortWholeRow, standIns := [], harness := (true, "135c2ca453a7f3c3c8ec9da4cbbd34ba3665a86f88218f120540a32c39a40929"), looks := false }, kinds := [], alts := [], laidByText := true, laidKinds := [.data], laidTests := true, laidLooks := .later }
def EffortWholeCardSaid : Prop := Claim7.holds Tryd.pinned (.plain (OpenSpec.ofChange effortWholeSpec)) effortWholeCard

/-- THE SECOND FORM's CARD OF 'stevedorelaw15.EffortPlans'. -/
def effortPlansUptoCard : Claim7 := { stood := { row := effortPlansUptoRow, standIns := [], harness := (true, "135c2ca453a7f3c3c8ec9da4cbbd34ba3665a86f88218f120540a32c39a40929"), looks := false }, kinds := [], alts := [], laidByText := true, laidKinds := [.data], laidTests := true, laidLooks := .later }
def EffortPlansUptoCardSaid : Prop := Claim7.holds Tryd.pinned (.plain (OpenSpec.upto effortPlansSpec)) effortPlansUptoCard

/-- THE SECOND FORM's CARD OF 'stevedorelaw15.EffortOrder'. -/
def effortOrderUptoCard : Claim7 := { stood := { row := effortOrderUptoRow, standIns := [], harness := (true, "135c2ca453a7f3c3c8ec9da4cbbd34ba3665a86f88218f120540a32c39a40929"), looks := false }, kinds := [], alts := [], laidByText := true, laidKinds := [.data], laidTests := true, laidLooks := .later }
def EffortOrderUptoCardSaid : Prop := Claim7.holds Tryd.pinned (.plain (OpenSpec.upto effortOrderSpec)) effortOrderUptoCard

/-- THE SECOND FORM's CARD OF 'stevedorelaw15.EffortWhole'. -/
def effortWholeUptoCard : Claim7 := { stood := { row := effortWholeUptoRow, standIns := [], harness := (true, "135c2ca453a7f3c3c8ec9da4cbbd34ba3665a86f88218f120540a32c39a40929"), looks := false }, kinds := [], alts := [], laidByText := true, laidKinds := [.data], laidTests := true, laidLooks := .later }
def EffortWholeUptoCardSaid : Prop := Claim7.holds Tryd.pinned (.plain (OpenSpec.upto effortWholeSpec)) effortWholeUptoCard
end Rows
end Go.Proofs.YtdilhbodokbnoaaDoor

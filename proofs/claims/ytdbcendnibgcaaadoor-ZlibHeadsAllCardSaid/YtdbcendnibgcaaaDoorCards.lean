/-
  DERIVED. GIVEN WITH THE SEED: THE CARDS: each row of YtdbcendnibgcaaaDoorRows.lean that lists a variable, with what it lists TIED to the program's text (the seventh form; the later family's looks); each row that meets fmt, with fmt's text TOLD by the authors' own Lean function (tested against real Go, not proved from fmt's source: count such statements apart). THE CARD IS WHAT COUNTS. Prove the row's statement (the work); the ties are given (YtdbcendnibgcaaaDoorTie.lean); close each card by the builder's one call (the guide's Derived/Test/ToyasCard.lean, 'card_holds'). Laid BY PROGRAM, IN A SANDBOX (cutbox-door.mjs). By AI agents, Wed Nov 11 2026. No macro, syntax, notation, axiom, sorry.
-/
import Derived.Test.YtdbcendnibgcaaaDoorRows
import GoSem.ClaimSeven
namespace Go.Proofs.YtdbcendnibgcaaaDoor
namespace Rows

/-- THE TIED CARD OF 'stevedorelaw18.ZlibHeadsAll'. -/
def zlibHeadsAllCard : Claim7 := { stood := { row := zlibHeadsAllRow, standIns := [], harness := (true, "de11f0de2d44b491b7f0b6447be60c7dedb5b82a42110717a80771bc1f1c5868"), looks := true }, kinds := [], alts := [], laidByText := true, laidKinds := [.data], laidTests := true, laidLooks := .later }
def ZlibHeadsAllCardSaid : Prop := Claim7.holds Tryd.pinned (.plain (OpenSpec.ofChange zlibHeadsAllSpec)) zlibHeadsAllCard

/-- THE SECOND FORM's CARD OF 'stevedorelaw18.ZlibHeadsAll'. -/
def zlibHeadsAllUptoCard : Claim7 := { stood := { row := zlibHeadsAllUptoRow, standIns := [], harness := (true, "de11f0de2d44b491b7f0b6447be60c7dedb5b82a42110717a80771bc1f1c5868"), looks := true }, kinds := [], alts := [], laidByText := true, laidKinds := [.data], laidTests := true, laidLooks := .later }
def ZlibHeadsAllUptoCardSaid : Prop := Claim7.holds Tryd.pinned (.plain (OpenSpec.upto zlibHeadsAllSpec)) zlibHeadsAllUptoCard
end Rows
end Go.Proofs.YtdbcendnibgcaaaDoor

/-
  DERIVED. GIVEN WITH THE SEED: THE CARDS: each row of YtjejlhpnhkacmaaGreatDoorRows.lean that lists a variable, with what it lists TIED to the program's text (the seventh form; the later family's looks); each row that meets fmt, with fmt's text TOLD by the authors' own Lean function (tested against real Go, not proved from fmt's source: count such statements apart). THE CARD IS WHAT COUNTS. Prove the row's statement (the work); the ties are given (YtjejlhpnhkacmaaGreatDoorTie.lean); close each card by the builder's one call (the guide's Derived/Test/ToyasCard.lean, 'card_holds'). Laid BY PROGRAM, IN A SANDBOX (cutbox-door.mjs). By AI agents, Wed Nov 11 2026. No macro, syntax, notation, axiom, sorry.
-/
import Derived.Test.YtjejlhpnhkacmaaGreatDoorRows
import GoSem.ClaimSeven
namespace Go.Proofs.YtjejlhpnhkacmaaGreatDoor
namespace Rows

/-- THE TIED CARD OF 'stevedorelaw12.InflatePrefix'. -/
def inflatePrefixCard : Claim7 := { stood := { row := inflatePrefixRow, standIns := [], harness := (true, "8c1c83d48d426ca8cf242ee75f1b687bdfbbd32d280e747b452aba0eab107942"), looks := true }, kinds := [], alts := [], laidByText := true, laidKinds := [.data], laidTests := true, laidLooks := .later }
def InflatePrefixCardSaid : Prop := Claim7.holds Tryz.pinned (.plain (OpenSpec.ofChange inflatePrefixSpec)) inflatePrefixCard

/-- THE SECOND FORM's CARD OF 'stevedorelaw12.InflatePrefix'. -/
def inflatePrefixUptoCard : Claim7 := { stood := { row := inflatePrefixUptoRow, standIns := [], harness := (true, "8c1c83d48d426ca8cf242ee75f1b687bdfbbd32d280e747b452aba0eab107942"), looks := true }, kinds := [], alts := [], laidByText := true, laidKinds := [.data], laidTests := true, laidLooks := .later }
def InflatePrefixUptoCardSaid : Prop := Claim7.holds Tryz.pinned (.plain (OpenSpec.upto inflatePrefixSpec)) inflatePrefixUptoCard
end Rows
end Go.Proofs.YtjejlhpnhkacmaaGreatDoor

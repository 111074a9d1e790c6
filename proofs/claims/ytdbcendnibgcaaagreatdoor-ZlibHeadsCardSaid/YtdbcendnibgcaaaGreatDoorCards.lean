/-
  DERIVED. GIVEN WITH THE SEED: THE CARDS: each row of YtdbcendnibgcaaaGreatDoorRows.lean that lists a variable, with what it lists TIED to the program's text (the seventh form; the later family's looks); each row that meets fmt, with fmt's text TOLD by the authors' own Lean function (tested against real Go, not proved from fmt's source: count such statements apart). THE CARD IS WHAT COUNTS. Prove the row's statement (the work); the ties are given (YtdbcendnibgcaaaGreatDoorTie.lean); close each card by the builder's one call (the guide's Derived/Test/ToyasCard.lean, 'card_holds'). Laid BY PROGRAM, IN A SANDBOX (cutbox-door.mjs). By AI agents, Wed Nov 11 2026. No macro, syntax, notation, axiom, sorry.
-/
import Derived.Test.YtdbcendnibgcaaaGreatDoorRows
import GoSem.ClaimSeven
namespace Go.Proofs.YtdbcendnibgcaaaGreatDoor
namespace Rows

/-- THE TIED CARD OF 'stevedorelaw18.ZlibHeads'. -/
def zlibHeadsCard : Claim7 := { stood := { row := zlibHeadsRow, standIns := [], harness := (true, "e704dd6d775e1ff3e2662f7a72644c014174ee294dac01e1b58e6d9d2f997be8"), looks := true }, kinds := [], alts := [], laidByText := true, laidKinds := [.data], laidTests := true, laidLooks := .later }
def ZlibHeadsCardSaid : Prop := Claim7.holds Tryz.pinned (.plain (OpenSpec.ofChange zlibHeadsSpec)) zlibHeadsCard

/-- THE TIED CARD OF 'stevedorelaw18.ZlibAll'. -/
def zlibAllCard : Claim7 := { stood := { row := zlibAllRow, standIns := [], harness := (true, "e704dd6d775e1ff3e2662f7a72644c014174ee294dac01e1b58e6d9d2f997be8"), looks := true }, kinds := [], alts := [], laidByText := true, laidKinds := [.data], laidTests := true, laidLooks := .later }
def ZlibAllCardSaid : Prop := Claim7.holds Tryz.pinned (.plain (OpenSpec.ofChange zlibAllSpec)) zlibAllCard

/-- THE TIED CARD OF 'stevedorelaw18.ZlibBack'. -/
def zlibBackCard : Claim7 := { stood := { row := zlibBackRow, standIns := [], harness := (true, "e704dd6d775e1ff3e2662f7a72644c014174ee294dac01e1b58e6d9d2f997be8"), looks := true }, kinds := [], alts := [], laidByText := true, laidKinds := [.data], laidTests := true, laidLooks := .later }
def ZlibBackCardSaid : Prop := Claim7.holds Tryz.pinned (.plain (OpenSpec.ofChange zlibBackSpec)) zlibBackCard

/-- THE TIED CARD OF 'stevedorelaw18.ZlibWindows'. -/
def zlibWindowsCard : Claim7 := { stood := { row := zlibWindowsRow, standIns := [], harness := (true, "e704dd6d775e1ff3e2662f7a72644c014174ee294dac01e1b58e6d9d2f997be8"), looks := true }, kinds := [], alts := [], laidByText := true, laidKinds := [.data], laidTests := true, laidLooks := .later }
def ZlibWindowsCardSaid : Prop := Claim7.holds Tryz.pinned (.plain (OpenSpec.ofChange zlibWindowsSpec)) zlibWindowsCard

/-- THE SECOND FORM's CARD OF 'stevedorelaw18.ZlibHeads'. -/
def zlibHeadsUptoCard : Claim7 := { stood := { row := zlibHeadsUptoRow, standIns := [], harness := (true, "e704dd6d775e1ff3e2662f7a72644c014174ee294dac01e1b58e6d9d2f997be8"), looks := true }, kinds := [], alts := [], laidByText := true, laidKinds := [.data], laidTests := true, laidLooks := .later }
def ZlibHeadsUptoCardSaid : Prop := Claim7.holds Tryz.pinned (.plain (OpenSpec.upto zlibHeadsSpec)) zlibHeadsUptoCard

/-- THE SECOND FORM's CARD OF 'stevedorelaw18.ZlibAll'. -/
def zlibAllUptoCard : Claim7 := { stood := { row := zlibAllUptoRow, standIns := [], harness := (true, "e704dd6d775e1ff3e2662f7a72644c014174ee294dac01e1b58e6d9d2f997be8"), looks := true }, kinds := [], alts := [], laidByText := true, laidKinds := [.data], laidTests := true, laidLooks := .later }
def ZlibAllUptoCardSaid : Prop := Claim7.holds Tryz.pinned (.plain (OpenSpec.upto zlibAllSpec)) zlibAllUptoCard

/-- THE SECOND FORM's CARD OF 'stevedorelaw18.ZlibBack'. -/
def zlibBackUptoCard : Claim7 := { stood := { row := zlibBackUptoRow, standIns := [], harness := (true, "e704dd6d775e1ff3e2662f7a72644c014174ee294dac01e1b58e6d9d2f997be8"), looks := true }, kinds := [], alts := [], laidByText := true, laidKinds := [.data], laidTests := true, laidLooks := .later }
def ZlibBackUptoCardSaid : Prop := Claim7.holds Tryz.pinned (.plain (OpenSpec.upto zlibBackSpec)) zlibBackUptoCard

/-- THE SECOND FORM's CARD OF 'stevedorelaw18.ZlibWindows'. -/
def zlibWindowsUptoCard : Claim7 := { stood := { row := zlibWindowsUptoRow, standIns := [], harness := (true, "e704dd6d775e1ff3e2662f7a72644c014174ee294dac01e1b58e6d9d2f997be8"), looks := true }, kinds := [], alts := [], laidByText := true, laidKinds := [.data], laidTests := true, laidLooks := .later }
def ZlibWindowsUptoCardSaid : Prop := Claim7.holds Tryz.pinned (.plain (OpenSpec.upto zlibWindowsSpec)) zlibWindowsUptoCard
end Rows
end Go.Proofs.YtdbcendnibgcaaaGreatDoor

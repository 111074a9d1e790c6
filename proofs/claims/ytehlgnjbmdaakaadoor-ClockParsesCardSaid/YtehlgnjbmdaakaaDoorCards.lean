/-
  DERIVED. GIVEN WITH THE SEED: THE CARDS: each row of YtehlgnjbmdaakaaDoorRows.lean that lists a variable, with what it lists TIED to the program's text (the seventh form; the later family's looks); each row that meets fmt, with fmt's text TOLD by the authors' own Lean function (tested against real Go, not proved from fmt's source: count such statements apart). THE CARD IS WHAT COUNTS. Prove the row's statement (the work); the ties are given (YtehlgnjbmdaakaaDoorTie.lean); close each card by the builder's one call (the guide's Derived/Test/ToyasCard.lean, 'card_holds'). Laid BY PROGRAM, IN A SANDBOX (cutbox-door.mjs). By AI agents, Wed Nov 11 2026. No macro, syntax, notation, axiom, sorry.
-/
import Derived.Test.YtehlgnjbmdaakaaDoorRows
import GoSem.ClaimSeven
namespace Go.Proofs.YtehlgnjbmdaakaaDoor
namespace Rows

/-- THE TIED CARD OF 'stevedorelaw4.ClockDates'. -/
def clockDatesCard : Claim7 := { stood := { row := clockDatesRow, standIns := [], harness := (true, "43c533342e28cdab87d60e76684ea25f17a12b5c93c4231897eeb22f9e77ae91"), looks := false }, kinds := [], alts := [], laidByText := true, laidKinds := [.data, .data, .data, .data, .pinned], laidTests := true, laidLooks := .later }
def ClockDatesCardSaid : Prop := Claim7.holds Tryd.pinned (.plain (OpenSpec.ofChange clockDatesSpec)) clockDatesCard

/-- THE TIED CARD OF 'stevedorelaw4.ClockBack'. -/
def clockBackCard : Claim7 := { stood := { row := clockBackRow, standIns := [], harness := (true, "43c533342e28cdab87d60e76684ea25f17a12b5c93c4231897eeb22f9e77ae91"), looks := false }, kinds := [], alts := [], laidByText := true, laidKinds := [.data, .data, .data, .data, .pinned], laidTests := true, laidLooks := .later }
def ClockBackCardSaid : Prop := Claim7.holds Tryd.pinned (.plain (OpenSpec.ofChange clockBackSpec)) clockBackCard

/-- THE TIED CARD OF 'stevedorelaw4.ClockFine'. -/
def clockFineCard : Claim7 := { stood := { row := clockFineRow, standIns := [], harness := (true, "43c533342e28cdab87d60e76684ea25f17a12b5c93c4231897eeb22f9e77ae91"), looks := false }, kinds := [], alts := [], laidByText := true, laidKinds := [.data, .data, .data, .data, .pinned], laidTests := true, laidLooks := .later }
def ClockFineCardSaid : Prop := Claim7.holds Tryd.pinned (.plain (OpenSpec.ofChange clockFineSpec)) clockFineCard

/-- THE TIED CARD OF 'stevedorelaw4.ClockKeeps'. -/
def clockKeepsCard : Claim7 := { stood := { row := clockKeepsRow, standIns := [], harness := (true, "43c533342e28cdab87d60e76684ea25f17a12b5c93c4231897eeb22f9e77ae91"), looks := false }, kinds := [], alts := [], laidByText := true, laidKinds := [.data, .data, .data, .data, .pinned], laidTests := true, laidLooks := .later }
def ClockKeepsCardSaid : Prop := Claim7.holds Tryd.pinned (.plain (OpenSpec.ofChange clockKeepsSpec)) clockKeepsCard

/-- THE TIED CARD OF 'stevedorelaw4.ClockOrder'. -/
def clockOrderCard : Claim7 := { stood := { row := clockOrderRow, standIns := [], harness := (true, "43c533342e28cdab87d60e76684ea25f17a12b5c93c4231897eeb22f9e77ae91"), looks := false }, kinds := [], alts := [], laidByText := true, laidKinds := [.data, .data, .data, .data, .pinned], laidTests := true, laidLooks := .later }
def ClockOrderCardSaid : Prop := Claim7.holds Tryd.pinned (.plain (OpenSpec.ofChange clockOrderSpec)) clockOrderCard

/-- THE TIED CARD OF 'stevedorelaw4.ClockYears'. -/
def clockYearsCard : Claim7 := { stood := { row := clockYearsRow, standIns := [], harness := (true, "43c533342e28cdab87d60e76684ea25f17a12b5c93c4231897eeb22f9e77ae91"), looks := false }, kinds := [], alts := [], laidByText := true, laidKinds := [.data, .data, .data, .data, .pinned], laidTests := true, laidLooks := .later }
def ClockYearsCardSaid : Prop := Claim7.holds Tryd.pinned (.plain (OpenSpec.ofChange clockYearsSpec)) clockYearsCard

/-- THE TIED CARD OF 'stevedorelaw4.ClockParses'. -/
def clockParsesCard : Claim7 := { stood := { row := clockParsesRow, standIns := [], harness := (true, "43c533342e28cdab87d60e76684ea25f17a12b5c93c4231897eeb22f9e77ae91"), looks := false }, kinds := [], alts := [], laidByText := true, laidKinds := [.data, .data, .data, .data, .pinned], laidTests := true, laidLooks := .later }
def ClockParsesCardSaid : Prop := Claim7.holds Tryd.pinned (.plain (OpenSpec.ofChange clockParsesSpec)) clockParsesCard

/-- THE SECOND FORM's CARD OF 'stevedorelaw4.ClockDates'. -/
def clockDatesUptoCard : Claim7 := { stood := { row := clockDatesUptoRow, standIns := [], harness := (true, "43c533342e28cdab87d60e76684ea25f17a12b5c93c4231897eeb22f9e77ae91"), looks := false }, kinds := [], alts := [], laidByText := true, laidKinds := [.data, .data, .data, .data, .pinned], laidTests := true, laidLooks := .later }
def ClockDatesUptoCardSaid : Prop := Claim7.holds Tryd.pinned (.plain (OpenSpec.upto clockDatesSpec)) clockDatesUptoCard

/-- THE SECOND FORM's CARD OF 'stevedorelaw4.ClockBack'. -/
def clockBackUptoCard : Claim7 := { stood := { row := clockBackUptoRow, standIns := [], harness := (true, "43c533342e28cdab87d60e76684ea25f17a12b5c93c4231897eeb22f9e77ae91"), looks := false }, kinds := [], alts := [], laidByText := true, laidKinds := [.data, .data, .data, .data, .pinned], laidTests := true, laidLooks := .later }
def ClockBackUptoCardSaid : Prop := Claim7.holds Tryd.pinned (.plain (OpenSpec.upto clockBackSpec)) clockBackUptoCard

/-- THE SECOND FORM's CARD OF 'stevedorelaw4.ClockFine'. -/
def clockFineUptoCard : Claim7 := { stood := { row := clockFineUptoRow, standIns := [], harness := (true, "43c533342e28cdab87d60e76684ea25f17a12b5c93c4231897eeb22f9e77ae91"), looks := false }, kinds := [], alts := [], laidByText := true, laidKinds := [.data, .data, .data, .data, .pinned], laidTests := true, laidLooks := .later }
def ClockFineUptoCardSaid : Prop := Claim7.holds Tryd.pinned (.plain (OpenSpec.upto clockFineSpec)) clockFineUptoCard

/-- THE SECOND FORM's CARD OF 'stevedorelaw4.ClockKeeps'. -/
def clockKeepsUptoCard : Claim7 := { stood := { row := clockKeepsUptoRow, standIns := [], harness := (true, "43c533342e28cdab87d60e76684ea25f17a12b5c93c4231897eeb22f9e77ae91"), looks := false }, kinds := [], alts := [], laidByText := true, laidKinds := [.data, .data, .data, .data, .pinned], laidTests := true, laidLooks := .later }
def ClockKeepsUptoCardSaid : Prop := Claim7.holds Tryd.pinned (.plain (OpenSpec.upto clockKeepsSpec)) clockKeepsUptoCard

/-- THE SECOND FORM's CARD OF 'stevedorelaw4.ClockOrder'. -/
def clockOrderUptoCard : Claim7 := { stood := { row := clockOrderUptoRow, standIns := [], harness := (true, "43c533342e28cdab87d60e76684ea25f17a12b5c93c4231897eeb22f9e77ae91"), looks := false }, kinds := [], alts := [], laidByText := true, laidKinds := [.data, .data, .data, .data, .pinned], laidTests := true, laidLooks := .later }
def ClockOrderUptoCardSaid : Prop := Claim7.holds Tryd.pinned (.plain (OpenSpec.upto clockOrderSpec)) clockOrderUptoCard

/-- THE SECOND FORM's CARD OF 'stevedorelaw4.ClockYears'. -/
def clockYearsUptoCard : Claim7 := { stood := { row := clockYearsUptoRow, standIns := [], harness := (true, "43c533342e28cdab87d60e76684ea25f17a12b5c93c4231897eeb22f9e77ae91"), looks := false }, kinds := [], alts := [], laidByText := true, laidKinds := [.data, .data, .data, .data, .pinned], laidTests := true, laidLooks := .later }
def ClockYearsUptoCardSaid : Prop := Claim7.holds Tryd.pinned (.plain (OpenSpec.upto clockYearsSpec)) clockYearsUptoCard

/-- THE SECOND FORM's CARD OF 'stevedorelaw4.ClockParses'. -/
def clockParsesUptoCard : Claim7 := { stood := { row := clockParsesUptoRow, standIns := [], harness := (true, "43c533342e28cdab87d60e76684ea25f17a12b5c93c4231897eeb22f9e77ae91"), looks := false }, kinds := [], alts := [], laidByText := true, laidKinds := [.data, .data, .data, .data, .pinned], laidTests := true, laidLooks := .later }
def ClockParsesUptoCardSaid : Prop := Claim7.holds Tryd.pinned (.plain (OpenSpec.upto clockParsesSpec)) clockParsesUptoCard
end Rows
end Go.Proofs.YtehlgnjbmdaakaaDoor

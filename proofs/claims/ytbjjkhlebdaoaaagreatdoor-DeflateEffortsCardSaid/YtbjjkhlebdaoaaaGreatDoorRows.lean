/-
  NARROWER THAN 'FOR EVERY INPUT', by the rows' own cells (each row's printed sentence says how): DeflateBack: laid · DeflateEfforts: laid.
  DERIVED. THE GIVEN ROWS OF THIS SEAT. 2 by the template 'for every input the law returns true; each argument reads behind the call as it read before'; 0 by the template 'total and deterministic' (their statements: YtbjjkhlebdaoaaaGreatDoorTotals.lean).
  GIVEN WITH THE SEED: the statements are not yours to turn. If you find one false, say at which input.
  Laid BY PROGRAM, IN A SANDBOX (cutbox-rows.mjs): the forced cells as the released guide's own fill.sh prints them over the translation 2ed408843508b96a… (all of the seat's roots in one cut). By AI agents, Wed Nov 11 2026. No macro, syntax, notation, axiom, sorry.
-/
import Derived.Test.YtbjjkhlebdaoaaaGreatDoorChecked
import GoSem.Claim
import GoSem.ClaimJoined
import GoSem.ClaimMapViews
import Derived.JoinedTies
import Derived.KernelRfl
namespace Go.Proofs.YtbjjkhlebdaoaaaGreatDoor
/- THE CELL 'sum', in the pinned program and in every row, IS THE sha256 OF THE DUMP (.gsa) THAT YtbjjkhlebdaoaaaGreatDoorProg.lean LOADS. Nothing in Lean hashes anything: it is a label: what it is worth is what the hold of that sum in a sandbox is worth. -/
noncomputable def Tryz.pinned : Pinned := { name := "ytbjjkhlebdaoaaagreatdoor", sum := "2ed408843508b96aeb81ccf4a43199677a38f08727ef74f12e6db97ff1d94933", checked := Tryz.checked }
namespace Rows
def none {H : Type} : Left H := { results := [], args := [] }

/- WHAT THE LISTED PACKAGE-LEVEL VARIABLES READ AS WHEN THE CALL BEGINS. Each datum BY PROGRAM (the guide's laid-datum.mjs) off the statement by which the dump's own 'gosem.cut.vars' lays the variable. In a bare row this is a premise. The card (YtbjjkhlebdaoaaaGreatDoorCards.lean) ties it to the program's text. -/
def laid_stevedore_effort_plans {H : Type} : DataW H := .agg [.agg [.lit (.bool true), .lit (.int .i64 0), .lit (.bool false), .lit (.int .i64 0)], .agg [.lit (.bool false), .lit (.int .i64 1), .lit (.bool false), .lit (.int .i64 8)], .agg [.lit (.bool false), .lit (.int .i64 4), .lit (.bool false), .lit (.int .i64 8)], .agg [.lit (.bool false), .lit (.int .i64 8), .lit (.bool false), .lit (.int .i64 16)], .agg [.lit (.bool false), .lit (.int .i64 8), .lit (.bool true), .lit (.int .i64 16)], .agg [.lit (.bool false), .lit (.int .i64 16), .lit (.bool true), .lit (.int .i64 32)], .agg [.lit (.bool false), .lit (.int .i64 32), .lit (.bool true), .lit (.int .i64 64)], .agg [.lit (.bool false), .lit (.int .i64 64), .lit (.bool true), .lit (.int .i64 128)], .agg [.lit (.bool false), .lit (.int .i64 256), .lit (.bool true), .lit (.int .i64 258)], .agg [.lit (.bool false), .lit (.int .i64 1024), .lit (.bool true), .lit (.int .i64 258)]]
def laid_stevedore_block_order {H : Type} : DataW H := .agg [.lit (.int .i64 16), .lit (.int .i64 17), .lit (.int .i64 18), .lit (.int .i64 0), .lit (.int .i64 8), .lit (.int .i64 7), .lit (.int .i64 9), .lit (.int .i64 6), .lit (.int .i64 10), .lit (.int .i64 5), .lit (.int .i64 11), .lit (.int .i64 4), .lit (.int .i64 12), .lit (.int .i64 3), .lit (.int .i64 13), .lit (.int .i64 2), .lit (.int .i64 14), .lit (.int .i64 1), .lit (.int .i64 15)]
def laid_stevedore_block_again {H : Type} : DataW H := .agg [.lit (.int .i64 16), .lit (.int .i64 3), .lit (.int .i64 6), .lit (.int .i64 2)]
def laid_stevedore_block_someZeros {H : Type} : DataW H := .agg [.lit (.int .i64 17), .lit (.int .i64 3), .lit (.int .i64 10), .lit (.int .i64 3)]
def laid_stevedore_block_manyZeros {H : Type} : DataW H := .agg [.lit (.int .i64 18), .lit (.int .i64 11), .lit (.int .i64 138), .lit (.int .i64 7)]

/-- 'stevedorelaw16.DeflateBack': WHATEVER THE INPUT: true; the input reads as it did. -/
def deflateBackSpec : ChangeSpec := { name := "deflateBack", fn := fun _ => fun
  | [d1, d2, d3, d4] => { results := [.lit (.bool true)], args := [d1, d2, d3, d4] }
  | _ => none }
def deflateBackRow : OpenClaim := { program := "ytbjjkhlebdaoaaagreatdoor", sum := "2ed408843508b96aeb81ccf4a43199677a38f08727ef74f12e6db97ff1d94933", func := "stevedore/stevedorelaw16.DeflateBack", spec := "deflateBack", unfollowed := true, recurses := true, named := ["stevedore/effort.plans", "stevedore/block.manyZeros", "stevedore/block.someZeros", "stevedore/block.again", "stevedore/block.order"], apart := false, laid := [("stevedore/effort.plans", laid_stevedore_effort_plans), ("stevedore/block.order", laid_stevedore_block_order), ("stevedore/block.again", laid_stevedore_block_again), ("stevedore/block.someZeros", laid_stevedore_block_someZeros), ("stevedore/block.manyZeros", laid_stevedore_block_manyZeros)] }
def DeflateBackSaid : Prop := deflateBackRow.holds Tryz.pinned (OpenSpec.ofChange deflateBackSpec)

/-- ITS FALSE NEIGHBOUR: 'it returns false'. Refute it at one input. -/
def deflateBackWrong : ChangeSpec := { name := "deflateBack", fn := fun _ => fun
  | [d1, d2, d3, d4] => { results := [.lit (.bool false)], args := [d1, d2, d3, d4] }
  | _ => none }
def DeflateBackWrongFalsely : Prop := deflateBackRow.holds Tryz.pinned (OpenSpec.ofChange deflateBackWrong)

/-- 'stevedorelaw16.DeflateEfforts': WHATEVER THE INPUT: true; the input reads as it did. -/
def deflateEffortsSpec : ChangeSpec := { name := "deflateEfforts", fn := fun _ => fun
  | [d1, d2, d3, d4] => { results := [.lit (.bool true)], args := [d1, d2, d3, d4] }
  | _ => none }
def deflateEffortsRow : OpenClaim := { program := "ytbjjkhlebdaoaaagreatdoor", sum := "2ed408843508b96aeb81ccf4a43199677a38f08727ef74f12e6db97ff1d94933", func := "stevedore/stevedorelaw16.DeflateEfforts", spec := "deflateEfforts", unfollowed := true, recurses := true, named := ["stevedore/effort.plans", "stevedore/block.manyZeros", "stevedore/block.someZeros", "stevedore/block.again", "stevedore/block.order"], apart := false, laid := [("stevedore/effort.plans", laid_stevedore_effort_plans), ("stevedore/block.order", laid_stevedore_block_order), ("stevedore/block.again", laid_stevedore_block_again), ("stevedore/block.someZeros", laid_stevedore_block_someZeros), ("stevedore/block.manyZeros", laid_stevedore_block_manyZeros)] }
def DeflateEffortsSaid : Prop := deflateEffortsRow.holds Tryz.pinned (OpenSpec.ofChange deflateEffortsSpec)

/-- ITS FALSE NEIGHBOUR: 'it returns false'. Refute it at one input. -/
def deflateEffortsWrong : ChangeSpec := { name := "deflateEfforts", fn := fun _ => fun
  | [d1, d2, d3, d4] => { results := [.lit (.bool false)], args := [d1, d2, d3, d4] }
  | _ => none }
def DeflateEffortsWrongFalsely : Prop := deflateEffortsRow.holds Tryz.pinned (OpenSpec.ofChange deflateEffortsWrong)

/- THE SECOND FORM. 'bulk': how many values and letters a reading holds, each counted each time it is reached (what is shared counts as often as it is met; a slice's spare places count too). A statement '..UptoSaid' is the law's where the arguments, and the package variables that the reading takes, are together of bulk at most 1048576: NARROWER than '..Said'. Prove '..Said' where nothing that the law and all that it calls make is longer than what came in: it says more and counts as full. Else prove '..UptoSaid'. A law counts once. -/
mutual
def uptoBulk {H : Type} : DataW H → Nat
  | .lit (.string bytes) => bytes.length + 1
  | .lit _ => 1
  | .nil => 1
  | .ptr d => uptoBulk d + 1
  | .slice elems spare => uptoBulkAll elems + uptoBulkAll spare + 1
  | .agg parts => uptoBulkAll parts + 1
  | .iface _ d => uptoBulk d + 1
  | .map entries => uptoBulkEntries entries + 1
  | .held _ => 1
def uptoBulkAll {H : Type} : List (DataW H) → Nat
  | [] => 0
  | d :: r => uptoBulk d + uptoBulkAll r
def uptoBulkEntries {H : Type} : List (Lit × DataW H) → Nat
  | [] => 0
  | x :: r => uptoBulkEntry x + uptoBulkEntries r
def uptoBulkEntry {H : Type} : Lit × DataW H → Nat
  | (.string bytes, d) => bytes.length + uptoBulk d + 1
  | (_, d) => uptoBulk d + 1
 end
def uptoSmall : (H : Type) → List (DataW H) → Bool := fun _ ds => decide (uptoBulkAll ds ≤ 1048576)
def OpenSpec.upto (s : _root_.Go.ChangeSpec) : _root_.Go.OpenSpec := { _root_.Go.OpenSpec.ofChange s with cond := some uptoSmall }

/-- 'stevedorelaw16.DeflateBack', WHERE WHAT IT READS IS OF BULK AT MOST 1048576: true; the input reads as it did. -/
def deflateBackUptoRow : OpenClaim := { program := "ytbjjkhlebdaoaaagreatdoor", sum := "2ed408843508b96aeb81ccf4a43199677a38f08727ef74f12e6db97ff1d94933", func := "stevedore/stevedorelaw16.DeflateBack", spec := "deflateBack", unfollowed := true, recurses := true, named := ["stevedore/effort.plans", "stevedore/block.manyZeros", "stevedore/block.someZeros", "stevedore/block.again", "stevedore/block.order"], apart := false, laid := [("stevedore/effort.plans", laid_stevedore_effort_plans), ("stevedore/block.order", laid_stevedore_block_order), ("stevedore/block.again", laid_stevedore_block_again), ("stevedore/block.someZeros", laid_stevedore_block_someZeros), ("stevedore/block.manyZeros", laid_stevedore_block_manyZeros)], narrowed := true }
def DeflateBackUptoSaid : Prop := deflateBackUptoRow.holds Tryz.pinned (OpenSpec.upto deflateBackSpec)

/-- 'stevedorelaw16.DeflateEfforts', WHERE WHAT IT READS IS OF BULK AT MOST 1048576: true; the input reads as it did. -/
def deflateEffortsUptoRow : OpenClaim := { program := "ytbjjkhlebdaoaaagreatdoor", sum := "2ed408843508b96aeb81ccf4a43199677a38f08727ef74f12e6db97ff1d94933", func := "stevedore/stevedorelaw16.DeflateEfforts", spec := "deflateEfforts", unfollowed := true, recurses := true, named := ["stevedore/effort.plans", "stevedore/block.manyZeros", "stevedore/block.someZeros", "stevedore/block.again", "stevedore/block.order"], apart := false, laid := [("stevedore/effort.plans", laid_stevedore_effort_plans), ("stevedore/block.order", laid_stevedore_block_order), ("stevedore/block.again", laid_stevedore_block_again), ("stevedore/block.someZeros", laid_stevedore_block_someZeros), ("stevedore/block.manyZeros", laid_stevedore_block_manyZeros)], narrowed := true }
def DeflateEffortsUptoSaid : Prop := deflateEffortsUptoRow.holds Tryz.pinned (OpenSpec.upto deflateEffortsSpec)

end Rows
end Go.Proofs.YtbjjkhlebdaoaaaGreatDoor

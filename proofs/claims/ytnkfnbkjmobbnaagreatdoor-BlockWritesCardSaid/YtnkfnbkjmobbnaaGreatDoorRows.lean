/-
  NARROWER THAN 'FOR EVERY INPUT', by the rows' own cells (each row's printed sentence says how): BlockWrites: laid · BlockTwo: laid.
  DERIVED. THE GIVEN ROWS OF THIS SEAT. 2 by the template 'for every input the law returns true; each argument reads behind the call as it read before'; 0 by the template 'total and deterministic' (their statements: YtnkfnbkjmobbnaaGreatDoorTotals.lean).
  GIVEN WITH THE SEED: the statements are not yours to turn. If you find one false, say at which input.
  Laid BY PROGRAM, IN A SANDBOX (cutbox-rows.mjs): the forced cells as the released guide's own fill.sh prints them over the translation 7db849f08fe385fa… (all of the seat's roots in one cut). By AI agents, Wed Nov 11 2026. No macro, syntax, notation, axiom, sorry.
-/
import Derived.Test.YtnkfnbkjmobbnaaGreatDoorChecked
import GoSem.Claim
import GoSem.ClaimJoined
import GoSem.ClaimMapViews
import Derived.JoinedTies
import Derived.KernelRfl
namespace Go.Proofs.YtnkfnbkjmobbnaaGreatDoor
/- THE CELL 'sum', in the pinned program and in every row, IS THE sha256 OF THE DUMP (.gsa) THAT YtnkfnbkjmobbnaaGreatDoorProg.lean LOADS. Nothing in Lean hashes anything: it is a label: what it is worth is what the hold of that sum in a sandbox is worth. -/
noncomputable def Tryz.pinned : Pinned := { name := "ytnkfnbkjmobbnaagreatdoor", sum := "7db849f08fe385fa4f95373e6345117085296beb17a2ba499435818640e7268f", checked := Tryz.checked }
namespace Rows
def none {H : Type} : Left H := { results := [], args := [] }

/- WHAT THE LISTED PACKAGE-LEVEL VARIABLES READ AS WHEN THE CALL BEGINS. Each datum BY PROGRAM (the guide's laid-datum.mjs) off the statement by which the dump's own 'gosem.cut.vars' lays the variable. In a bare row this is a premise. The card (YtnkfnbkjmobbnaaGreatDoorCards.lean) ties it to the program's text. -/
def laid_stevedore_block_order {H : Type} : DataW H := .agg [.lit (.int .i64 16), .lit (.int .i64 17), .lit (.int .i64 18), .lit (.int .i64 0), .lit (.int .i64 8), .lit (.int .i64 7), .lit (.int .i64 9), .lit (.int .i64 6), .lit (.int .i64 10), .lit (.int .i64 5), .lit (.int .i64 11), .lit (.int .i64 4), .lit (.int .i64 12), .lit (.int .i64 3), .lit (.int .i64 13), .lit (.int .i64 2), .lit (.int .i64 14), .lit (.int .i64 1), .lit (.int .i64 15)]
def laid_stevedore_block_again {H : Type} : DataW H := .agg [.lit (.int .i64 16), .lit (.int .i64 3), .lit (.int .i64 6), .lit (.int .i64 2)]
def laid_stevedore_block_someZeros {H : Type} : DataW H := .agg [.lit (.int .i64 17), .lit (.int .i64 3), .lit (.int .i64 10), .lit (.int .i64 3)]
def laid_stevedore_block_manyZeros {H : Type} : DataW H := .agg [.lit (.int .i64 18), .lit (.int .i64 11), .lit (.int .i64 138), .lit (.int .i64 7)]

/-- 'stevedorelaw14.BlockWrites': WHATEVER THE INPUT: true; the input reads as it did. -/
def blockWritesSpec : ChangeSpec := { name := "blockWrites", fn := fun _ => fun
  | [d1, d2, d3, d4, d5] => { results := [.lit (.bool true)], args := [d1, d2, d3, d4, d5] }
  | _ => none }
def blockWritesRow : OpenClaim := { program := "ytnkfnbkjmobbnaagreatdoor", sum := "7db849f08fe385fa4f95373e6345117085296beb17a2ba499435818640e7268f", func := "stevedore/stevedorelaw14.BlockWrites", spec := "blockWrites", unfollowed := true, recurses := true, named := ["stevedore/block.manyZeros", "stevedore/block.someZeros", "stevedore/block.again", "stevedore/block.order"], apart := false, laid := [("stevedore/block.order", laid_stevedore_block_order), ("stevedore/block.again", laid_stevedore_block_again), ("stevedore/block.someZeros", laid_stevedore_block_someZeros), ("stevedore/block.manyZeros", laid_stevedore_block_manyZeros)] }
def BlockWritesSaid : Prop := blockWritesRow.holds Tryz.pinned (OpenSpec.ofChange blockWritesSpec)

/-- ITS FALSE NEIGHBOUR: 'it returns false'. Refute it at one input. -/
def blockWritesWrong : ChangeSpec := { name := "blockWrites", fn := fun _ => fun
  | [d1, d2, d3, d4, d5] => { results := [.lit (.bool false)], args := [d1, d2, d3, d4, d5] }
  | _ => none }
def BlockWritesWrongFalsely : Prop := blockWritesRow.holds Tryz.pinned (OpenSpec.ofChange blockWritesWrong)

/-- 'stevedorelaw14.BlockTwo': WHATEVER THE INPUT: true; the input reads as it did. -/
def blockTwoSpec : ChangeSpec := { name := "blockTwo", fn := fun _ => fun
  | [d1, d2, d3] => { results := [.lit (.bool true)], args := [d1, d2, d3] }
  | _ => none }
def blockTwoRow : OpenClaim := { program := "ytnkfnbkjmobbnaagreatdoor", sum := "7db849f08fe385fa4f95373e6345117085296beb17a2ba499435818640e7268f", func := "stevedore/stevedorelaw14.BlockTwo", spec := "blockTwo", unfollowed := true, recurses := true, named := ["stevedore/block.manyZeros", "stevedore/block.someZeros", "stevedore/block.again", "stevedore/block.order"], apart := false, laid := [("stevedore/block.order", laid_stevedore_block_order), ("stevedore/block.again", laid_stevedore_block_again), ("stevedore/block.someZeros", laid_stevedore_block_someZeros), ("stevedore/block.manyZeros", laid_stevedore_block_manyZeros)] }
def BlockTwoSaid : Prop := blockTwoRow.holds Tryz.pinned (OpenSpec.ofChange blockTwoSpec)

/-- ITS FALSE NEIGHBOUR: 'it returns false'. Refute it at one input. -/
def blockTwoWrong : ChangeSpec := { name := "blockTwo", fn := fun _ => fun
  | [d1, d2, d3] => { results := [.lit (.bool false)], args := [d1, d2, d3] }
  | _ => none }
def BlockTwoWrongFalsely : Prop := blockTwoRow.holds Tryz.pinned (OpenSpec.ofChange blockTwoWrong)

/- THE SECOND FORM. 'bulk': how many values and letters a reading holds, each counted each time it is reached (what is shared counts as often as it is met; a slice's spare places count too). A statement '..UptoSaid' is the law's where the arguments, and the package variables that the reading takes, are together of bulk at most 1048576: NARROWER than '..Said'. Prove '..Said' where nothing that the law and all that it calls make is longer than what came in: it says more and counts as full. Else prove '..UptoSaid'. A law counts once. -/
mutual
def uptoBulk {H : Type} : DataW H → Nat
  | .lit (.string bytes) => bytes.length + 1
  | .lit _ => 1
  | .nil => 1
  | .ptr d => uptoBulk d + 1
  | .slice elems spare => uptoBulkAll elems + uptoBulkAll spare + 1
  | .agg parts => uptoBulkAll parts + 1
  | .iface _ d => uptoBulk d + 1
  | .map entries => uptoBulkEntries entries + 1
  | .held _ => 1
def uptoBulkAll {H : Type} : List (DataW H) → Nat
  | [] => 0
  | d :: r => uptoBulk d + uptoBulkAll r
def uptoBulkEntries {H : Type} : List (Lit × DataW H) → Nat
  | [] => 0
  | x :: r => uptoBulkEntry x + uptoBulkEntries r
def uptoBulkEntry {H : Type} : Lit × DataW H → Nat
  | (.string bytes, d) => bytes.length + uptoBulk d + 1
  | (_, d) => uptoBulk d + 1
 end
def uptoSmall : (H : Type) → List (DataW H) → Bool := fun _ ds => decide (uptoBulkAll ds ≤ 1048576)
def OpenSpec.upto (s : _root_.Go.ChangeSpec) : _root_.Go.OpenSpec := { _root_.Go.OpenSpec.ofChange s with cond := some uptoSmall }

/-- 'stevedorelaw14.BlockWrites', WHERE WHAT IT READS IS OF BULK AT MOST 1048576: true; the input reads as it did. -/
def blockWritesUptoRow : OpenClaim := { program := "ytnkfnbkjmobbnaagreatdoor", sum := "7db849f08fe385fa4f95373e6345117085296beb17a2ba499435818640e7268f", func := "stevedore/stevedorelaw14.BlockWrites", spec := "blockWrites", unfollowed := true, recurses := true, named := ["stevedore/block.manyZeros", "stevedore/block.someZeros", "stevedore/block.again", "stevedore/block.order"], apart := false, laid := [("stevedore/block.order", laid_stevedore_block_order), ("stevedore/block.again", laid_stevedore_block_again), ("stevedore/block.someZeros", laid_stevedore_block_someZeros), ("stevedore/block.manyZeros", laid_stevedore_block_manyZeros)], narrowed := true }
def BlockWritesUptoSaid : Prop := blockWritesUptoRow.holds Tryz.pinned (OpenSpec.upto blockWritesSpec)

/-- 'stevedorelaw14.BlockTwo', WHERE WHAT IT READS IS OF BULK AT MOST 1048576: true; the input reads as it did. -/
def blockTwoUptoRow : OpenClaim := { program := "ytnkfnbkjmobbnaagreatdoor", sum := "7db849f08fe385fa4f95373e6345117085296beb17a2ba499435818640e7268f", func := "stevedore/stevedorelaw14.BlockTwo", spec := "blockTwo", unfollowed := true, recurses := true, named := ["stevedore/block.manyZeros", "stevedore/block.someZeros", "stevedore/block.again", "stevedore/block.order"], apart := false, laid := [("stevedore/block.order", laid_stevedore_block_order), ("stevedore/block.again", laid_stevedore_block_again), ("stevedore/block.someZeros", laid_stevedore_block_someZeros), ("stevedore/block.manyZeros", laid_stevedore_block_manyZeros)], narrowed := true }
def BlockTwoUptoSaid : Prop := blockTwoUptoRow.holds Tryz.pinned (OpenSpec.upto blockTwoSpec)

end Rows
end Go.Proofs.YtnkfnbkjmobbnaaGreatDoor

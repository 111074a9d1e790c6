/-
  NARROWER THAN 'FOR EVERY INPUT', by the rows' own cells (each row's printed sentence says how): GzipBack: laid · GzipTurned: laid · GzipTotal: laid.
  DERIVED. THE GIVEN ROWS OF THIS SEAT. 3 by the template 'for every input the law returns true; each argument reads behind the call as it read before'; 0 by the template 'total and deterministic' (their statements: YtilfmmjjiiabgaaGreatDoorTotals.lean).
  GIVEN WITH THE SEED: the statements are not yours to turn. If you find one false, say at which input.
  Laid BY PROGRAM, IN A SANDBOX (cutbox-rows.mjs): the forced cells as the released guide's own fill.sh prints them over the translation eea63c4c272034e7… (all of the seat's roots in one cut). By AI agents, Wed Nov 11 2026. No macro, syntax, notation, axiom, sorry.
-/
import Derived.Test.YtilfmmjjiiabgaaGreatDoorChecked
import GoSem.Claim
import GoSem.ClaimJoined
import GoSem.ClaimMapViews
import Derived.JoinedTies
import Derived.KernelRfl
namespace Go.Proofs.YtilfmmjjiiabgaaGreatDoor
/- THE CELL 'sum', in the pinned program and in every row, IS THE sha256 OF THE DUMP (.gsa) THAT YtilfmmjjiiabgaaGreatDoorProg.lean LOADS. Nothing in Lean hashes anything: it is a label: what it is worth is what the hold of that sum in a sandbox is worth. -/
noncomputable def Tryz.pinned : Pinned := { name := "ytilfmmjjiiabgaagreatdoor", sum := "eea63c4c272034e7bc6810e79d1ccefe6d75f64e56a0e3524829b1df708db17f", checked := Tryz.checked }
namespace Rows
def none {H : Type} : Left H := { results := [], args := [] }

/- WHAT THE LISTED PACKAGE-LEVEL VARIABLES READ AS WHEN THE CALL BEGINS. Each datum BY PROGRAM (the guide's laid-datum.mjs) off the statement by which the dump's own 'gosem.cut.vars' lays the variable. In a bare row this is a premise. The card (YtilfmmjjiiabgaaGreatDoorCards.lean) ties it to the program's text. -/
def laid_stevedore_inflate_order {H : Type} : DataW H := .agg [.lit (.int .i64 16), .lit (.int .i64 17), .lit (.int .i64 18), .lit (.int .i64 0), .lit (.int .i64 8), .lit (.int .i64 7), .lit (.int .i64 9), .lit (.int .i64 6), .lit (.int .i64 10), .lit (.int .i64 5), .lit (.int .i64 11), .lit (.int .i64 4), .lit (.int .i64 12), .lit (.int .i64 3), .lit (.int .i64 13), .lit (.int .i64 2), .lit (.int .i64 14), .lit (.int .i64 1), .lit (.int .i64 15)]

/-- 'stevedorelaw17.GzipBack': WHATEVER THE INPUT: true; the input reads as it did. -/
def gzipBackSpec : ChangeSpec := { name := "gzipBack", fn := fun _ => fun
  | [d1, d2, d3] => { results := [.lit (.bool true)], args := [d1, d2, d3] }
  | _ => none }
def gzipBackRow : OpenClaim := { program := "ytilfmmjjiiabgaagreatdoor", sum := "eea63c4c272034e7bc6810e79d1ccefe6d75f64e56a0e3524829b1df708db17f", func := "stevedore/stevedorelaw17.GzipBack", spec := "gzipBack", inPlace := ["internal/bytealg.IndexByteString", "internal/bytealg.IndexString", "math.Float64frombits", "internal/bytealg.IndexByte"], unfollowed := true, recurses := true, named := ["internal/bytealg.MaxLen", "stevedore/inflate.order"], apart := false, laid := [("stevedore/inflate.order", laid_stevedore_inflate_order)] }
def GzipBackSaid : Prop := gzipBackRow.holds Tryz.pinned (OpenSpec.ofChange gzipBackSpec)

/-- ITS FALSE NEIGHBOUR: 'it returns false'. Refute it at one input. -/
def gzipBackWrong : ChangeSpec := { name := "gzipBack", fn := fun _ => fun
  | [d1, d2, d3] => { results := [.lit (.bool false)], args := [d1, d2, d3] }
  | _ => none }
def GzipBackWrongFalsely : Prop := gzipBackRow.holds Tryz.pinned (OpenSpec.ofChange gzipBackWrong)

/-- 'stevedorelaw17.GzipTurned': WHATEVER THE INPUT: true; the input reads as it did. -/
def gzipTurnedSpec : ChangeSpec := { name := "gzipTurned", fn := fun _ => fun
  | [d1, d2, d3] => { results := [.lit (.bool true)], args := [d1, d2, d3] }
  | _ => none }
def gzipTurnedRow : OpenClaim := { program := "ytilfmmjjiiabgaagreatdoor", sum := "eea63c4c272034e7bc6810e79d1ccefe6d75f64e56a0e3524829b1df708db17f", func := "stevedore/stevedorelaw17.GzipTurned", spec := "gzipTurned", inPlace := ["internal/bytealg.IndexByteString", "internal/bytealg.IndexString", "math.Float64frombits", "internal/bytealg.IndexByte"], unfollowed := true, recurses := true, named := ["internal/bytealg.MaxLen", "stevedore/inflate.order"], apart := false, laid := [("stevedore/inflate.order", laid_stevedore_inflate_order)] }
def GzipTurnedSaid : Prop := gzipTurnedRow.holds Tryz.pinned (OpenSpec.ofChange gzipTurnedSpec)

/-- ITS FALSE NEIGHBOUR: 'it returns false'. Refute it at one input. -/
def gzipTurnedWrong : ChangeSpec := { name := "gzipTurned", fn := fun _ => fun
  | [d1, d2, d3] => { results := [.lit (.bool false)], args := [d1, d2, d3] }
  | _ => none }
def GzipTurnedWrongFalsely : Prop := gzipTurnedRow.holds Tryz.pinned (OpenSpec.ofChange gzipTurnedWrong)

/-- 'stevedorelaw17.GzipTotal': WHATEVER THE INPUT: true; the input reads as it did. -/
def gzipTotalSpec : ChangeSpec := { name := "gzipTotal", fn := fun _ => fun
  | [d1, d2, d3] => { results := [.lit (.bool true)], args := [d1, d2, d3] }
  | _ => none }
def gzipTotalRow : OpenClaim := { program := "ytilfmmjjiiabgaagreatdoor", sum := "eea63c4c272034e7bc6810e79d1ccefe6d75f64e56a0e3524829b1df708db17f", func := "stevedore/stevedorelaw17.GzipTotal", spec := "gzipTotal", inPlace := ["internal/bytealg.IndexByteString", "internal/bytealg.IndexString", "math.Float64frombits", "internal/bytealg.IndexByte"], unfollowed := true, recurses := true, named := ["internal/bytealg.MaxLen", "stevedore/inflate.order"], apart := false, laid := [("stevedore/inflate.order", laid_stevedore_inflate_order)] }
def GzipTotalSaid : Prop := gzipTotalRow.holds Tryz.pinned (OpenSpec.ofChange gzipTotalSpec)

/-- ITS FALSE NEIGHBOUR: 'it returns false'. Refute it at one input. -/
def gzipTotalWrong : ChangeSpec := { name := "gzipTotal", fn := fun _ => fun
  | [d1, d2, d3] => { results := [.lit (.bool false)], args := [d1, d2, d3] }
  | _ => none }
def GzipTotalWrongFalsely : Prop := gzipTotalRow.holds Tryz.pinned (OpenSpec.ofChange gzipTotalWrong)

/- THE SECOND FORM. 'bulk': how many values and letters a reading holds, each counted each time it is reached (what is shared counts as often as it is met; a slice's spare places count too). A statement '..UptoSaid' is the law's where the arguments, and the package variables that the reading takes, are together of bulk at most 1048576: NARROWER than '..Said'. Prove '..Said' where nothing that the law and all that it calls make is longer than what came in: it says more and counts as full. Else prove '..UptoSaid'. A law counts once. -/
mutual
def uptoBulk {H : Type} : DataW H → Nat
  | .lit (.string bytes) => bytes.length + 1
  | .lit _ => 1
  | .nil => 1
  | .ptr d => uptoBulk d + 1
  | .slice elems spare => uptoBulkAll elems + uptoBulkAll spare + 1
  | .agg parts => uptoBulkAll parts + 1
  | .iface _ d => uptoBulk d + 1
  | .map entries => uptoBulkEntries entries + 1
  | .held _ => 1
def uptoBulkAll {H : Type} : List (DataW H) → Nat
  | [] => 0
  | d :: r => uptoBulk d + uptoBulkAll r
def uptoBulkEntries {H : Type} : List (Lit × DataW H) → Nat
  | [] => 0
  | x :: r => uptoBulkEntry x + uptoBulkEntries r
def uptoBulkEntry {H : Type} : Lit × DataW H → Nat
  | (.string bytes, d) => bytes.length + uptoBulk d + 1
  | (_, d) => uptoBulk d + 1
 end
def uptoSmall : (H : Type) → List (DataW H) → Bool := fun _ ds => decide (uptoBulkAll ds ≤ 1048576)
def OpenSpec.upto (s : _root_.Go.ChangeSpec) : _root_.Go.OpenSpec := { _root_.Go.OpenSpec.ofChange s with cond := some uptoSmall }

/-- 'stevedorelaw17.GzipBack', WHERE WHAT IT READS IS OF BULK AT MOST 1048576: true; the input reads as it did. -/
def gzipBackUptoRow : OpenClaim := { program := "ytilfmmjjiiabgaagreatdoor", sum := "eea63c4c272034e7bc6810e79d1ccefe6d75f64e56a0e3524829b1df708db17f", func := "stevedore/stevedorelaw17.GzipBack", spec := "gzipBack", inPlace := ["internal/bytealg.IndexByteString", "internal/bytealg.IndexString", "math.Float64frombits", "internal/bytealg.IndexByte"], unfollowed := true, recurses := true, named := ["internal/bytealg.MaxLen", "stevedore/inflate.order"], apart := false, laid := [("stevedore/inflate.order", laid_stevedore_inflate_order)], narrowed := true }
def GzipBackUptoSaid : Prop := gzipBackUptoRow.holds Tryz.pinned (OpenSpec.upto gzipBackSpec)

/-- 'stevedorelaw17.GzipTurned', WHERE WHAT IT READS IS OF BULK AT MOST 1048576: true; the input reads as it did. -/
def gzipTurnedUptoRow : OpenClaim := { program := "ytilfmmjjiiabgaagreatdoor", sum := "eea63c4c272034e7bc6810e79d1ccefe6d75f64e56a0e3524829b1df708db17f", func := "stevedore/stevedorelaw17.GzipTurned", spec := "gzipTurned", inPlace := ["internal/bytealg.IndexByteString", "internal/bytealg.IndexString", "math.Float64frombits", "internal/bytealg.IndexByte"], unfollowed := true, recurses := true, named := ["internal/bytealg.MaxLen", "stevedore/inflate.order"], apart := false, laid := [("stevedore/inflate.order", laid_stevedore_inflate_order)], narrowed := true }
def GzipTurnedUptoSaid : Prop := gzipTurnedUptoRow.holds Tryz.pinned (OpenSpec.upto gzipTurnedSpec)

/-- 'stevedorelaw17.GzipTotal', WHERE WHAT IT READS IS OF BULK AT MOST 1048576: true; the input reads as it did. -/
def gzipTotalUptoRow : OpenClaim := { program := "ytilfmmjjiiabgaagreatdoor", sum := "eea63c4c272034e7bc6810e79d1ccefe6d75f64e56a0e3524829b1df708db17f", func := "stevedore/stevedorelaw17.GzipTotal", spec := "gzipTotal", inPlace := ["internal/bytealg.IndexByteString", "internal/bytealg.IndexString", "math.Float64frombits", "internal/bytealg.IndexByte"], unfollowed := true, recurses := true, named := ["internal/bytealg.MaxLen", "stevedore/inflate.order"], apart := false, laid := [("stevedore/inflate.order", laid_stevedore_inflate_order)], narrowed := true }
def GzipTotalUptoSaid : Prop := gzipTotalUptoRow.holds Tryz.pinned (OpenSpec.upto gzipTotalSpec)

end Rows
end Go.Proofs.YtilfmmjjiiabgaaGreatDoor

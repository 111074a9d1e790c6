/-
  NARROWER THAN 'FOR EVERY INPUT', by the rows' own cells (each row's printed sentence says how): ZlibHeads: laid · ZlibAll: laid · ZlibBack: laid · ZlibWindows: laid.
  DERIVED. THE GIVEN ROWS OF THIS SEAT. 4 by the template 'for every input the law returns true; each argument reads behind the call as it read before'; 0 by the template 'total and deterministic' (their statements: YtdbcendnibgcaaaGreatDoorTotals.lean).
  GIVEN WITH THE SEED: the statements are not yours to turn. If you find one false, say at which input.
  Laid BY PROGRAM, IN A SANDBOX (cutbox-rows.mjs): the forced cells as the released guide's own fill.sh prints them over the translation 5c642bcb93302980… (all of the seat's roots in one cut). By AI agents, Wed Nov 11 2026. No macro, syntax, notation, axiom, sorry.
-/
import Derived.Test.YtdbcendnibgcaaaGreatDoorChecked
import GoSem.Claim
import GoSem.ClaimJoined
import GoSem.ClaimMapViews
import Derived.JoinedTies
import Derived.KernelRfl
namespace Go.Proofs.YtdbcendnibgcaaaGreatDoor
/- THE CELL 'sum', in the pinned program and in every row, IS THE sha256 OF THE DUMP (.gsa) THAT YtdbcendnibgcaaaGreatDoorProg.lean LOADS. Nothing in Lean hashes anything: it is a label: what it is worth is what the hold of that sum in a sandbox is worth. -/
noncomputable def Tryz.pinned : Pinned := { name := "ytdbcendnibgcaaagreatdoor", sum := "5c642bcb93302980a2979e77cc9b687149d9e79d43b7ce2af3da0af53295da19", checked := Tryz.checked }
namespace Rows
def none {H : Type} : Left H := { results := [], args := [] }

/- WHAT THE LISTED PACKAGE-LEVEL VARIABLES READ AS WHEN THE CALL BEGINS. Each datum BY PROGRAM (the guide's laid-datum.mjs) off the statement by which the dump's own 'gosem.cut.vars' lays the variable. In a bare row this is a premise. The card (YtdbcendnibgcaaaGreatDoorCards.lean) ties it to the program's text. -/
def laid_stevedore_inflate_order {H : Type} : DataW H := .agg [.lit (.int .i64 16), .lit (.int .i64 17), .lit (.int .i64 18), .lit (.int .i64 0), .lit (.int .i64 8), .lit (.int .i64 7), .lit (.int .i64 9), .lit (.int .i64 6), .lit (.int .i64 10), .lit (.int .i64 5), .lit (.int .i64 11), .lit (.int .i64 4), .lit (.int .i64 12), .lit (.int .i64 3), .lit (.int .i64 13), .lit (.int .i64 2), .lit (.int .i64 14), .lit (.int .i64 1), .lit (.int .i64 15)]

/-- 'stevedorelaw18.ZlibHeads': WHATEVER THE INPUT: true; the input reads as it did. -/
def zlibHeadsSpec : ChangeSpec := { name := "zlibHeads", fn := fun _ => fun
  | [d1, d2, d3, d4] => { results := [.lit (.bool true)], args := [d1, d2, d3, d4] }
  | _ => none }
def zlibHeadsRow : OpenClaim := { program := "ytdbcendnibgcaaagreatdoor", sum := "5c642bcb93302980a2979e77cc9b687149d9e79d43b7ce2af3da0af53295da19", func := "stevedore/stevedorelaw18.ZlibHeads", spec := "zlibHeads", unfollowed := true, recurses := true, named := ["stevedore/inflate.order"], apart := false, laid := [("stevedore/inflate.order", laid_stevedore_inflate_order)] }
def ZlibHeadsSaid : Prop := zlibHeadsRow.holds Tryz.pinned (OpenSpec.ofChange zlibHeadsSpec)

/-- ITS FALSE NEIGHBOUR: 'it returns false'. Refute it at one input. -/
def zlibHeadsWrong : ChangeSpec := { name := "zlibHeads", fn := fun _ => fun
  | [d1, d2, d3, d4] => { results := [.lit (.bool false)], args := [d1, d2, d3, d4] }
  | _ => none }
def ZlibHeadsWrongFalsely : Prop := zlibHeadsRow.holds Tryz.pinned (OpenSpec.ofChange zlibHeadsWrong)

/-- 'stevedorelaw18.ZlibAll': WHATEVER THE INPUT: true; the input reads as it did. -/
def zlibAllSpec : ChangeSpec := { name := "zlibAll", fn := fun _ => fun
  | [d1, d2, d3] => { results := [.lit (.bool true)], args := [d1, d2, d3] }
  | _ => none }
def zlibAllRow : OpenClaim := { program := "ytdbcendnibgcaaagreatdoor", sum := "5c642bcb93302980a2979e77cc9b687149d9e79d43b7ce2af3da0af53295da19", func := "stevedore/stevedorelaw18.ZlibAll", spec := "zlibAll", unfollowed := true, recurses := true, named := ["stevedore/inflate.order"], apart := false, laid := [("stevedore/inflate.order", laid_stevedore_inflate_order)] }
def ZlibAllSaid : Prop := zlibAllRow.holds Tryz.pinned (OpenSpec.ofChange zlibAllSpec)

/-- ITS FALSE NEIGHBOUR: 'it returns false'. Refute it at one input. -/
def zlibAllWrong : ChangeSpec := { name := "zlibAll", fn := fun _ => fun
  | [d1, d2, d3] => { results := [.lit (.bool false)], args := [d1, d2, d3] }
  | _ => none }
def ZlibAllWrongFalsely : Prop := zlibAllRow.holds Tryz.pinned (OpenSpec.ofChange zlibAllWrong)

/-- 'stevedorelaw18.ZlibBack': WHATEVER THE INPUT: true; the input reads as it did. -/
def zlibBackSpec : ChangeSpec := { name := "zlibBack", fn := fun _ => fun
  | [d1, d2] => { results := [.lit (.bool true)], args := [d1, d2] }
  | _ => none }
def zlibBackRow : OpenClaim := { program := "ytdbcendnibgcaaagreatdoor", sum := "5c642bcb93302980a2979e77cc9b687149d9e79d43b7ce2af3da0af53295da19", func := "stevedore/stevedorelaw18.ZlibBack", spec := "zlibBack", unfollowed := true, recurses := true, named := ["stevedore/inflate.order"], apart := false, laid := [("stevedore/inflate.order", laid_stevedore_inflate_order)] }
def ZlibBackSaid : Prop := zlibBackRow.holds Tryz.pinned (OpenSpec.ofChange zlibBackSpec)

/-- ITS FALSE NEIGHBOUR: 'it returns false'. Refute it at one input. -/
def zlibBackWrong : ChangeSpec := { name := "zlibBack", fn := fun _ => fun
  | [d1, d2] => { results := [.lit (.bool false)], args := [d1, d2] }
  | _ => none }
def ZlibBackWrongFalsely : Prop := zlibBackRow.holds Tryz.pinned (OpenSpec.ofChange zlibBackWrong)

/-- 'stevedorelaw18.ZlibWindows': WHATEVER THE INPUT: true; the input reads as it did. -/
def zlibWindowsSpec : ChangeSpec := { name := "zlibWindows", fn := fun _ => fun
  | [d1, d2] => { results := [.lit (.bool true)], args := [d1, d2] }
  | _ => none }
def zlibWindowsRow : OpenClaim := { program := "ytdbcendnibgcaaagreatdoor", sum := "5c642bcb93302980a2979e77cc9b687149d9e79d43b7ce2af3da0af53295da19", func := "stevedore/stevedorelaw18.ZlibWindows", spec := "zlibWindows", unfollowed := true, recurses := true, named := ["stevedore/inflate.order"], apart := false, laid := [("stevedore/inflate.order", laid_stevedore_inflate_order)] }
def ZlibWindowsSaid : Prop := zlibWindowsRow.holds Tryz.pinned (OpenSpec.ofChange zlibWindowsSpec)

/-- ITS FALSE NEIGHBOUR: 'it returns false'. Refute it at one input. -/
def zlibWindowsWrong : ChangeSpec := { name := "zlibWindows", fn := fun _ => fun
  | [d1, d2] => { results := [.lit (.bool false)], args := [d1, d2] }
  | _ => none }
def ZlibWindowsWrongFalsely : Prop := zlibWindowsRow.holds Tryz.pinned (OpenSpec.ofChange zlibWindowsWrong)

/- THE SECOND FORM. 'bulk': how many values and letters a reading holds, each counted each time it is reached (what is shared counts as often as it is met; a slice's spare places count too). A statement '..UptoSaid' is the law's where the arguments, and the package variables that the reading takes, are together of bulk at most 1048576: NARROWER than '..Said'. Prove '..Said' where nothing that the law and all that it calls make is longer than what came in: it says more and counts as full. Else prove '..UptoSaid'. A law counts once. -/
mutual
def uptoBulk {H : Type} : DataW H → Nat
  | .lit (.string bytes) => bytes.length + 1
  | .lit _ => 1
  | .nil => 1
  | .ptr d => uptoBulk d + 1
  | .slice elems spare => uptoBulkAll elems + uptoBulkAll spare + 1
  | .agg parts => uptoBulkAll parts + 1
  | .iface _ d => uptoBulk d + 1
  | .map entries => uptoBulkEntries entries + 1
  | .held _ => 1
def uptoBulkAll {H : Type} : List (DataW H) → Nat
  | [] => 0
  | d :: r => uptoBulk d + uptoBulkAll r
def uptoBulkEntries {H : Type} : List (Lit × DataW H) → Nat
  | [] => 0
  | x :: r => uptoBulkEntry x + uptoBulkEntries r
def uptoBulkEntry {H : Type} : Lit × DataW H → Nat
  | (.string bytes, d) => bytes.length + uptoBulk d + 1
  | (_, d) => uptoBulk d + 1
 end
def uptoSmall : (H : Type) → List (DataW H) → Bool := fun _ ds => decide (uptoBulkAll ds ≤ 1048576)
def OpenSpec.upto (s : _root_.Go.ChangeSpec) : _root_.Go.OpenSpec := { _root_.Go.OpenSpec.ofChange s with cond := some uptoSmall }

/-- 'stevedorelaw18.ZlibHeads', WHERE WHAT IT READS IS OF BULK AT MOST 1048576: true; the input reads as it did. -/
def zlibHeadsUptoRow : OpenClaim := { program := "ytdbcendnibgcaaagreatdoor", sum := "5c642bcb93302980a2979e77cc9b687149d9e79d43b7ce2af3da0af53295da19", func := "stevedore/stevedorelaw18.ZlibHeads", spec := "zlibHeads", unfollowed := true, recurses := true, named := ["stevedore/inflate.order"], apart := false, laid := [("stevedore/inflate.order", laid_stevedore_inflate_order)], narrowed := true }
def ZlibHeadsUptoSaid : Prop := zlibHeadsUptoRow.holds Tryz.pinned (OpenSpec.upto zlibHeadsSpec)

/-- 'stevedorelaw18.ZlibAll', WHERE WHAT IT READS IS OF BULK AT MOST 1048576: true; the input reads as it did. -/
def zlibAllUptoRow : OpenClaim := { program := "ytdbcendnibgcaaagreatdoor", sum := "5c642bcb93302980a2979e77cc9b687149d9e79d43b7ce2af3da0af53295da19", func := "stevedore/stevedorelaw18.ZlibAll", spec := "zlibAll", unfollowed := true, recurses := true, named := ["stevedore/inflate.order"], apart := false, laid := [("stevedore/inflate.order", laid_stevedore_inflate_order)], narrowed := true }
def ZlibAllUptoSaid : Prop := zlibAllUptoRow.holds Tryz.pinned (OpenSpec.upto zlibAllSpec)

/-- 'stevedorelaw18.ZlibBack', WHERE WHAT IT READS IS OF BULK AT MOST 1048576: true; the input reads as it did. -/
def zlibBackUptoRow : OpenClaim := { program := "ytdbcendnibgcaaagreatdoor", sum := "5c642bcb93302980a2979e77cc9b687149d9e79d43b7ce2af3da0af53295da19", func := "stevedore/stevedorelaw18.ZlibBack", spec := "zlibBack", unfollowed := true, recurses := true, named := ["stevedore/inflate.order"], apart := false, laid := [("stevedore/inflate.order", laid_stevedore_inflate_order)], narrowed := true }
def ZlibBackUptoSaid : Prop := zlibBackUptoRow.holds Tryz.pinned (OpenSpec.upto zlibBackSpec)

/-- 'stevedorelaw18.ZlibWindows', WHERE WHAT IT READS IS OF BULK AT MOST 1048576: true; the input reads as it did. -/
def zlibWindowsUptoRow : OpenClaim := { program := "ytdbcendnibgcaaagreatdoor", sum := "5c642bcb93302980a2979e77cc9b687149d9e79d43b7ce2af3da0af53295da19", func := "stevedore/stevedorelaw18.ZlibWindows", spec := "zlibWindows", unfollowed := true, recurses := true, named := ["stevedore/inflate.order"], apart := false, laid := [("stevedore/inflate.order", laid_stevedore_inflate_order)], narrowed := true }
def ZlibWindowsUptoSaid : Prop := zlibWindowsUptoRow.holds Tryz.pinned (OpenSpec.upto zlibWindowsSpec)

end Rows
end Go.Proofs.YtdbcendnibgcaaaGreatDoor

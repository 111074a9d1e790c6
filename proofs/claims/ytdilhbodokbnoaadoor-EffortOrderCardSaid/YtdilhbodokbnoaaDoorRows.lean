/-
  NARROWER THAN 'FOR EVERY INPUT', by the rows' own cells (each row's printed sentence says how): EffortPlans: laid · EffortOrder: laid · EffortWhole: laid.
  DERIVED. THE GIVEN ROWS OF THIS SEAT. 3 by the template 'for every input the law returns true; each argument reads behind the call as it read before'; 0 by the template 'total and deterministic' (their statements: YtdilhbodokbnoaaDoorTotals.lean).
  GIVEN WITH THE SEED: the statements are not yours to turn. If you find one false, say at which input.
  Laid BY PROGRAM, IN A SANDBOX (cutbox-rows.mjs): the forced cells as the released guide's own fill.sh prints them over the translation 99dfd278d2168dea… (all of the seat's roots in one cut). By AI agents, Wed Nov 11 2026. No macro, syntax, notation, axiom, sorry.
-/
import Derived.Test.YtdilhbodokbnoaaDoorChecked
import GoSem.Claim
import GoSem.ClaimJoined
import GoSem.ClaimMapViews
import Derived.JoinedTies
import Derived.KernelRfl
namespace Go.Proofs.YtdilhbodokbnoaaDoor
/- THE CELL 'sum', in the pinned program and in every row, IS THE sha256 OF THE DUMP (.gsa) THAT YtdilhbodokbnoaaDoorProg.lean LOADS. Nothing in Lean hashes anything: it is a label: what it is worth is what the hold of that sum in a sandbox is worth. -/
noncomputable def Tryd.pinned : Pinned := { name := "ytdilhbodokbnoaadoor", sum := "99dfd278d2168dead1f6f5212909a438667100983620aaa18ffc30b970098545", checked := Tryd.checked }
namespace Rows
def none {H : Type} : Left H := { results := [], args := [] }

/- WHAT THE LISTED PACKAGE-LEVEL VARIABLES READ AS WHEN THE CALL BEGINS. Each datum BY PROGRAM (the guide's laid-datum.mjs) off the statement by which the dump's own 'gosem.cut.vars' lays the variable. In a bare row this is a premise. The card (YtdilhbodokbnoaaDoorCards.lean) ties it to the program's text. -/
def laid_stevedore_effort_plans {H : Type} : DataW H := .agg [.agg [.lit (.bool true), .lit (.int .i64 0), .lit (.bool false), .lit (.int .i64 0)], .agg [.lit (.bool false), .lit (.int .i64 1), .lit (.bool false), .lit (.int .i64 8)], .agg [.lit (.bool false), .lit (.int .i64 4), .lit (.bool false), .lit (.int .i64 8)], .agg [.lit (.bool false), .lit (.int .i64 8), .lit (.bool false), .lit (.int .i64 16)], .agg [.lit (.bool false), .lit (.int .i64 8), .lit (.bool true), .lit (.int .i64 16)], .agg [.lit (.bool false), .lit (.int .i64 16), .lit (.bool true), .lit (.int .i64 32)], .agg [.lit (.bool false), .lit (.int .i64 32), .lit (.bool true), .lit (.int .i64 64)], .agg [.lit (.bool false), .lit (.int .i64 64), .lit (.bool true), .lit (.int .i64 128)], .agg [.lit (.bool false), .lit (.int .i64 256), .lit (.bool true), .lit (.int .i64 258)], .agg [.lit (.bool false), .lit (.int .i64 1024), .lit (.bool true), .lit (.int .i64 258)]]

/-- 'stevedorelaw15.EffortPlans': WHATEVER THE INPUT: true; the input reads as it did. -/
def effortPlansSpec : ChangeSpec := { name := "effortPlans", fn := fun _ => fun
  | [d1, d2] => { results := [.lit (.bool true)], args := [d1, d2] }
  | _ => none }
def effortPlansRow : OpenClaim := { program := "ytdilhbodokbnoaadoor", sum := "99dfd278d2168dead1f6f5212909a438667100983620aaa18ffc30b970098545", func := "stevedore/stevedorelaw15.EffortPlans", spec := "effortPlans", named := ["stevedore/effort.plans"], apart := false, laid := [("stevedore/effort.plans", laid_stevedore_effort_plans)] }
def EffortPlansSaid : Prop := effortPlansRow.holds Tryd.pinned (OpenSpec.ofChange effortPlansSpec)

/-- ITS FALSE NEIGHBOUR: 'it returns false'. Refute it at one input. -/
def effortPlansWrong : ChangeSpec := { name := "effortPlans", fn := fun _ => fun
  | [d1, d2] => { results := [.lit (.bool false)], args := [d1, d2] }
  | _ => none }
def EffortPlansWrongFalsely : Prop := effortPlansRow.holds Tryd.pinned (OpenSpec.ofChange effortPlansWrong)

/-- 'stevedorelaw15.EffortOrder': WHATEVER THE INPUT: true; the input reads as it did. -/
def effortOrderSpec : ChangeSpec := { name := "effortOrder", fn := fun _ => fun
  | [d1, d2, d3] => { results := [.lit (.bool true)], args := [d1, d2, d3] }
  | _ => none }
def effortOrderRow : OpenClaim := { program := "ytdilhbodokbnoaadoor", sum := "99dfd278d2168dead1f6f5212909a438667100983620aaa18ffc30b970098545", func := "stevedore/stevedorelaw15.EffortOrder", spec := "effortOrder", named := ["stevedore/effort.plans"], apart := false, laid := [("stevedore/effort.plans", laid_stevedore_effort_plans)] }
def EffortOrderSaid : Prop := effortOrderRow.holds Tryd.pinned (OpenSpec.ofChange effortOrderSpec)

/-- ITS FALSE NEIGHBOUR: 'it returns false'. Refute it at one input. -/
def effortOrderWrong : ChangeSpec := { name := "effortOrder", fn := fun _ => fun
  | [d1, d2, d3] => { results := [.lit (.bool false)], args := [d1, d2, d3] }
  | _ => none }
def EffortOrderWrongFalsely : Prop := effortOrderRow.holds Tryd.pinned (OpenSpec.ofChange effortOrderWrong)

/-- 'stevedorelaw15.EffortWhole': WHATEVER THE INPUT: true; the input reads as it did. -/
def effortWholeSpec : ChangeSpec := { name := "effortWhole", fn := fun _ => fun
  | [d1, d2] => { results := [.lit (.bool true)], args := [d1, d2] }
  | _ => none }
def effortWholeRow : OpenClaim := { program := "ytdilhbodokbnoaadoor", sum := "99dfd278d2168dead1f6f5212909a438667100983620aaa18ffc30b970098545", func := "stevedore/stevedorelaw15.EffortWhole", spec := "effortWhole", named := ["stevedore/effort.plans"], apart := false, laid := [("stevedore/effort.plans", laid_stevedore_effort_plans)] }
def EffortWholeSaid : Prop := effortWholeRow.holds Tryd.pinned (OpenSpec.ofChange effortWholeSpec)

/-- ITS FALSE NEIGHBOUR: 'it returns false'. Refute it at one input. -/
def effortWholeWrong : ChangeSpec := { name := "effortWhole", fn := fun _ => fun
  | [d1, d2] => { results := [.lit (.bool false)], args := [d1, d2] }
  | _ => none }
def EffortWholeWrongFalsely : Prop := effortWholeRow.holds Tryd.pinned (OpenSpec.ofChange effortWholeWrong)

/- THE SECOND FORM. 'bulk': how many values and letters a reading holds, each counted each time it is reached (what is shared counts as often as it is met; a slice's spare places count too). A statement '..UptoSaid' is the law's where the arguments, and the package variables that the reading takes, are together of bulk at most 1048576: NARROWER than '..Said'. Prove '..Said' where nothing that the law and all that it calls make is longer than what came in: it says more and counts as full. Else prove '..UptoSaid'. A law counts once. -/
mutual
def uptoBulk {H : Type} : DataW H → Nat
  | .lit (.string bytes) => bytes.length + 1
  | .lit _ => 1
  | .nil => 1
  | .ptr d => uptoBulk d + 1
  | .slice elems spare => uptoBulkAll elems + uptoBulkAll spare + 1
  | .agg parts => uptoBulkAll parts + 1
  | .iface _ d => uptoBulk d + 1
  | .map entries => uptoBulkEntries entries + 1
  | .held _ => 1
def uptoBulkAll {H : Type} : List (DataW H) → Nat
  | [] => 0
  | d :: r => uptoBulk d + uptoBulkAll r
def uptoBulkEntries {H : Type} : List (Lit × DataW H) → Nat
  | [] => 0
  | x :: r => uptoBulkEntry x + uptoBulkEntries r
def uptoBulkEntry {H : Type} : Lit × DataW H → Nat
  | (.string bytes, d) => bytes.length + uptoBulk d + 1
  | (_, d) => uptoBulk d + 1
 end
def uptoSmall : (H : Type) → List (DataW H) → Bool := fun _ ds => decide (uptoBulkAll ds ≤ 1048576)
def OpenSpec.upto (s : _root_.Go.ChangeSpec) : _root_.Go.OpenSpec := { _root_.Go.OpenSpec.ofChange s with cond := some uptoSmall }

/-- 'stevedorelaw15.EffortPlans', WHERE WHAT IT READS IS OF BULK AT MOST 1048576: true; the input reads as it did. -/
def effortPlansUptoRow : OpenClaim := { program := "ytdilhbodokbnoaadoor", sum := "99dfd278d2168dead1f6f5212909a438667100983620aaa18ffc30b970098545", func := "stevedore/stevedorelaw15.EffortPlans", spec := "effortPlans", named := ["stevedore/effort.plans"], apart := false, laid := [("stevedore/effort.plans", laid_stevedore_effort_plans)], narrowed := true }
def EffortPlansUptoSaid : Prop := effortPlansUptoRow.holds Tryd.pinned (OpenSpec.upto effortPlansSpec)

/-- 'stevedorelaw15.EffortOrder', WHERE WHAT IT READS IS OF BULK AT MOST 1048576: true; the input reads as it did. -/
def effortOrderUptoRow : OpenClaim := { program := "ytdilhbodokbnoaadoor", sum := "99dfd278d2168dead1f6f5212909a438667100983620aaa18ffc30b970098545", func := "stevedore/stevedorelaw15.EffortOrder", spec := "effortOrder", named := ["stevedore/effort.plans"], apart := false, laid := [("stevedore/effort.plans", laid_stevedore_effort_plans)], narrowed := true }
def EffortOrderUptoSaid : Prop := effortOrderUptoRow.holds Tryd.pinned (OpenSpec.upto effortOrderSpec)

/-- 'stevedorelaw15.EffortWhole', WHERE WHAT IT READS IS OF BULK AT MOST 1048576: true; the input reads as it did. -/
def effortWholeUptoRow : OpenClaim := { program := "ytdilhbodokbnoaadoor", sum := "99dfd278d2168dead1f6f5212909a438667100983620aaa18ffc30b970098545", func := "stevedore/stevedorelaw15.EffortWhole", spec := "effortWhole", named := ["stevedore/effort.plans"], apart := false, laid := [("stevedore/effort.plans", laid_stevedore_effort_plans)], narrowed := true }
def EffortWholeUptoSaid : Prop := effortWholeUptoRow.holds Tryd.pinned (OpenSpec.upto effortWholeSpec)

end Rows
end Go.Proofs.YtdilhbodokbnoaaDoor

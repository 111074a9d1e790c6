/-
  A Plan that came in.
-/
import Derived.Test.YtfdfggomgaegoaaMatC
import Derived.WideShapes
import Derived.ChangeArms
import Derived.OpenShut
import Derived.ProofKit
import Derived.Lib.SmallJoins
namespace Go.Proofs.Ytfdfggomgaegoaa.MatC
open Go.RowKit Go.My Go.WideShapes Go.ChangeShapes

/-- Its numbers are numbers. -/
def PvOk (_st : Bool) (ch : Int) (_lz : Bool) (gd : Int) : Prop := (Lit.int .i64 ch).wf = true ∧ (Lit.int .i64 gd).wf = true
section
variable {H : Type} {enc : TypeId × Value → H} {w : World} {base : Nat} {spare : Nat → Bool} {held : Bool}
set_option maxRecDepth 100000 in
theorem open_plan {r : Reach} {b0 : Nat} {v : Value} {d : DataW H} {p : List MemPlace} (hv : Value.okWide Try.prog w r b0 24 v) (h : DataW.Trod enc Try.prog w base spare held 24 v d p) :
    ∃ (st : Bool) (ch : Int) (lz : Bool) (gd : Int), v = pv st ch lz gd ∧ PvOk st ch lz gd := by
  obtain ⟨v0, v1, v2, v3, y0, y1, y2, y3, n, rfl, _, _, h0, h1, h2, h3⟩ := Joins.open_agg4 Try.underlying24 (by kernel_rfl) (by kernel_rfl) hv h
  obtain ⟨x0, e0, _⟩ := DataW.trod_bool Try.underlying4 h0
  obtain ⟨x1, e1, _, w1⟩ := DataW.trod_int Try.underlying3 h1
  obtain ⟨x2, e2, _⟩ := DataW.trod_bool Try.underlying4 h2
  obtain ⟨x3, e3, _, w3⟩ := DataW.trod_int Try.underlying3 h3
  simp only [List.cons.injEq, and_true] at e0 e1 e2 e3
  subst e0 e1 e2 e3
  exact ⟨x0, x1, x2, x3, rfl, w1, w3⟩
end
end Go.Proofs.Ytfdfggomgaegoaa.MatC

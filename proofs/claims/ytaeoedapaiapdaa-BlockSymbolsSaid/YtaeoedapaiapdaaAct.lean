/-
  A drawn region over a frame that is a LETTER: each operation's frame has a name of its own, what its slots hold is carried by plain equations, so no step looks at the other slots. No dump.
-/
import Derived.Test.YtaeoedapaiapdaaOrd
namespace Go.My
open Go.RowKit
theorem ev_eq {A B : Act} {d n : Nat} {v : Value} (h : B = A.put (some d) v) (hs : A.tmps.size = n) (hd : d < n) : B.eval (.tmp d) = v := by
  subst h; subst hs
  simp [Act.eval, Act.put, Array.getD, hd]
theorem ev_ne {A B : Act} {d t : Nat} {v x : Value} (h : B = A.put (some d) v) (hx : A.eval (.tmp t) = x) (hne : d ≠ t) : B.eval (.tmp t) = x := by
  subst h; subst hx
  simp [Act.eval, Act.put, Array.getD_eq_getD_getElem?, hne]
theorem sz_put {A B : Act} {d : Option Tmp} {n : Nat} {v : Value} (h : B = A.put d v) (hs : A.tmps.size = n) : B.tmps.size = n := by
  subst h; subst hs
  cases d <;> simp [Act.put]
/-- A slot written in a frame that is written out ('simp only [put_lit, List.set_cons_succ, List.set_cons_zero]': a second for a dozen slots of 157). -/
theorem put_lit (l : List Value) (ds : List Deferred) (d : Nat) (v : Value) : Act.put ⟨l.toArray, ds⟩ (some d) v = ⟨(l.set d v).toArray, ds⟩ := by simp [Act.put]
section
variable {P : Program} {ops : Array Oper} {Q : Exit → Act → World → Prop} {md : Region.Mode} {S : World → Prop}
theorem act_name {fuel : Nat} {listed : Array Bool} {a : Act} {w : World} (h : ∀ A, A = a → wpAnyH P md ops Q S fuel listed A w) : wpAnyH P md ops Q S fuel listed a w := h a rfl
theorem act_as {fuel : Nat} {listed : Array Bool} {a b : Act} {w : World} (h : a = b) (hp : wpAnyH P md ops Q S fuel listed b w) : wpAnyH P md ops Q S fuel listed a w := by subst h; exact hp
theorem ord_step {i : Nat} {o : Oper} {d : Option Tmp} (v : Value) {fuel : Nat} {listed : Array Bool} {a : Act} {w : World} (hi : ops[i]? = some o) (hd : o.dst = d)
    (hs : Region.noSelect ops = true) (hf : Region.free md ops listed i = true) (hr : (Region.ready md ops listed).contains i = true)
    (hQ : ∀ c a w, Q (.panic c) (a.put d v) w → Q (.panic c) a w) (hg : o.guard = none) (hS : S w) (hy : ∀ w, S w → (execOp a.eval o).run P w = .ok (.value v) w)
    (h : ∀ B, B = a.put d v → wpAnyH P md ops Q S fuel (listed.setIfInBounds i true) B w) : wpAnyH P md ops Q S (fuel + 1) listed a w :=
  ord_take v hi hd hs hf hr hQ (by simp [Region.wanted, hg]) hy hS (h _ rfl)
theorem ord_lone {i : Nat} {o : Oper} {fuel : Nat} {listed : Array Bool} {a : Act} {w : World} (hi : ops[i]? = some o) (hr : Region.ready md ops listed = [i]) (hg : o.guard = none)
    (h : o.wp P a w (fun a' w' => S w' ∧ wpAnyH P md ops Q S fuel (listed.setIfInBounds i true) a' w') Q) : wpAnyH P md ops Q S (fuel + 1) listed a w :=
  ord_alone hi hr (by simp [Region.wanted, hg]) h
theorem act_name_and {p : Prop} {fuel : Nat} {listed : Array Bool} {a : Act} {w : World} (hp : p) (h : ∀ A, A = a → wpAnyH P md ops Q S fuel listed A w) : p ∧ wpAnyH P md ops Q S fuel listed a w := ⟨hp, h a rfl⟩
end
/-- What a move, an assign yields. -/
theorem x_move {P : Program} {a : Act} {o : Oper} (s : Operand) {v : Value} {w : World} (ho : o.op = .move s) (hs : a.eval s = v) : (execOp a.eval o).run P w = .ok (.value v) w := by
  unfold execOp; rw [ho]; subst hs; rfl
theorem x_assign {P : Program} {a : Act} {o : Oper} (s : Operand) {v : Value} {w : World} (ho : o.op = .assign s) (hs : a.eval s = v) : (execOp a.eval o).run P w = .ok (.value v) w := by
  unfold execOp; rw [ho]; subst hs; rfl
end Go.My

import Derived.Test.YtehlgnjbmdaakaaDoorClkA
import Derived.WideShapes
import Derived.ChangeArms
import Derived.OpenShut
import Derived.ProofKit
namespace Go.Proofs.YtehlgnjbmdaakaaDoor.ClkC
open Go.RowKit Go.My Clk Go.WideShapes Go.ChangeShapes

section
variable {H : Type} {enc : TypeId × Value → H} {w : World} {base : Nat} {spare : Nat → Bool} {held : Bool}
set_option maxRecDepth 100000 in
/-- A date that came in: six numbers. -/
theorem open_date {r : Reach} {b0 : Nat} {v : Value} {d : DataW H} {p : List MemPlace} (hv : Value.okWide Tryd.prog w r b0 23 v) (h : DataW.Trod enc Tryd.prog w base spare held 23 v d p) :
    ∃ a1 a2 a3 a4 a5 a6 : Int, v = dateV a1 a2 a3 a4 a5 a6 := by
  obtain ⟨cs, rfl, hsz⟩ := okWide_struct Tryd.underlying23 hv
  have h6 : cs.toList.length = 6 := by
    rw [Array.length_toList, hsz]; kernel_rfl
  obtain ⟨fuel, hf⟩ := h
  obtain ⟨xs, n, _, _, _, hlen, hg⟩ := DataW.trod_struct Tryd.underlying23 hf
  have hl : xs.length = 6 := hlen
  have hc1 : Tryd.prog.cellsOf 3 = 1 := by kernel_rfl
  have key : ∀ (i : Nat) (f : Field), f.type = 3 → (f.offset = i) → i < 6 → (∃ g, g = f ∧ DataW.trod enc Tryd.prog w base spare held n f.type ((cs.toList.drop f.offset).take (Tryd.prog.cellsOf f.type)) = xs[i]?) → ∃ z : Int, cs.toList[i]? = some (.int .i64 z) := by
    rintro i f ht ho hi ⟨_, _, hr⟩
    rw [ht, ho, hc1] at hr
    rw [List.getElem?_eq_getElem (by omega)] at hr
    obtain ⟨z, hz, _⟩ := DataW.trod_int Tryd.underlying3 hr
    refine ⟨z, ?_⟩
    have := congrArg (·[0]?) hz
    simpa [List.getElem?_take, List.getElem?_drop] using this
  obtain ⟨z0, e0⟩ := key 0 _ rfl rfl (by omega) ⟨_, rfl, hg 0 _ rfl⟩
  obtain ⟨z1, e1⟩ := key 1 _ rfl rfl (by omega) ⟨_, rfl, hg 1 _ rfl⟩
  obtain ⟨z2, e2⟩ := key 2 _ rfl rfl (by omega) ⟨_, rfl, hg 2 _ rfl⟩
  obtain ⟨z3, e3⟩ := key 3 _ rfl rfl (by omega) ⟨_, rfl, hg 3 _ rfl⟩
  obtain ⟨z4, e4⟩ := key 4 _ rfl rfl (by omega) ⟨_, rfl, hg 4 _ rfl⟩
  obtain ⟨z5, e5⟩ := key 5 _ rfl rfl (by omega) ⟨_, rfl, hg 5 _ rfl⟩
  refine ⟨z0, z1, z2, z3, z4, z5, ?_⟩
  unfold dateV
  congr 1
  apply Array.toList_inj.1
  apply List.ext_getElem?
  intro i
  by_cases hi : i < 6
  · have : i = 0 ∨ i = 1 ∨ i = 2 ∨ i = 3 ∨ i = 4 ∨ i = 5 := by omega
    rcases this with rfl | rfl | rfl | rfl | rfl | rfl
    · exact e0
    · exact e1
    · exact e2
    · exact e3
    · exact e4
    · exact e5
  · rw [List.getElem?_eq_none (by omega), List.getElem?_eq_none (by simp; omega)]
end
end Go.Proofs.YtehlgnjbmdaakaaDoor.ClkC

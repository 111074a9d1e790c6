import Derived.Test.YtdbcendnibgcaaaGreatDoorMgBb
import Derived.Test.YtdbcendnibgcaaaGreatDoorRows
import Derived.Lib.LaidTab

section
/-
  The order of the code lengths, out of what is laid.
-/
namespace Go.Proofs.YtdbcendnibgcaaaGreatDoor.InfC
open Go.RowKit Go.My

theorem gOrder : Tryz.prog.globalNamed "stevedore/inflate.order" = some 0 := by kernel_rfl
theorem tOrder : (Tryz.prog.globals[0]?).map (·.type) = some 135 := by kernel_rfl
def orderZ : List Int := [16, 17, 18, 0, 8, 7, 9, 6, 10, 5, 11, 4, 12, 3, 13, 2, 14, 1, 15]
theorem order_of_laid {rest : List (String × DataW Unit)} {W : World} (h : laidMet Tryz.prog (("stevedore/inflate.order", Lib.tabData .i64 orderZ) :: rest) W) : Ordr W.heap.size W := by
  obtain ⟨ps, ⟨g1, t1, cs1, f1, p1, q1, hg1, ht1, hv1, hd1, _, _⟩, _, _⟩ := h
  obtain rfl := Option.some.inj (gOrder.symm.trans hg1)
  obtain rfl := Option.some.inj (tOrder.symm.trans ht1)
  have hc := Lib.cells_of_tab Tryz.underlying135 Tryz.underlying3 (by kernel_rfl) (by kernel_rfl) hd1
  have at_ : ∀ i v, cs1.toList[i]? = some v → W.cell? ⟨0, i, none⟩ = some v := fun i v hv => by
    rw [World.var?_cell hg1 hv1 i]
    simpa using hv
  have hcell : ∀ i, i < 19 → W.cell? ⟨0, i, none⟩ = some (.int .i64 ((InfMath.order.getD i 0 : Nat) : Int)) := fun i hi => by
    refine at_ i _ ?_
    rw [hc]
    have : i = 0 ∨ i = 1 ∨ i = 2 ∨ i = 3 ∨ i = 4 ∨ i = 5 ∨ i = 6 ∨ i = 7 ∨ i = 8 ∨ i = 9 ∨ i = 10 ∨ i = 11 ∨ i = 12 ∨ i = 13 ∨ i = 14 ∨ i = 15 ∨ i = 16 ∨ i = 17 ∨ i = 18 := by omega
    rcases this with rfl | rfl | rfl | rfl | rfl | rfl | rfl | rfl | rfl | rfl | rfl | rfl | rfl | rfl | rfl | rfl | rfl | rfl | rfl <;> rfl
  exact ⟨block_lt_of_cell (hcell 0 (by omega)), hcell⟩
end Go.Proofs.YtdbcendnibgcaaaGreatDoor.InfC
end

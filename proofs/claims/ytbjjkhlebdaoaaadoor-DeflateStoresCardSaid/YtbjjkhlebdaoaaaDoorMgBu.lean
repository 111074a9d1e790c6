import Derived.Test.YtbjjkhlebdaoaaaDoorMgBt
import Derived.Lib.LaidTab
import Derived.Lib.SmallJoins

section
/-
  The package's tables, out of what is laid.
-/
namespace Go.Proofs.YtbjjkhlebdaoaaaDoor.BlkC
open Go.RowKit Go.My

theorem four_of {cs : List Value} {a b c d : Value} (hl : cs.length = 4) (h1 : (cs.drop 0).take 1 = [a]) (h2 : (cs.drop 1).take 1 = [b]) (h3 : (cs.drop 2).take 1 = [c]) (h4 : (cs.drop 3).take 1 = [d]) : cs = [a, b, c, d] := by
  match cs, hl with
  | [v1, v2, v3, v4], _ =>
    simp at h1 h2 h3 h4
    rw [h1, h2, h3, h4]
theorem rep_cells {H : Type} {enc : TypeId × Value → H} {w : World} {base : Nat} {sp : Nat → Bool} {held : Bool} {fuel : Nat} {cs : List Value} {a b c d : Int} {p : List MemPlace}
    (h : DataW.trod enc Tryd.prog w base sp held fuel 148 cs = some (.agg [.lit (.int .i64 a), .lit (.int .i64 b), .lit (.int .i64 c), .lit (.int .i64 d)], p)) : cs = [.int .i64 a, .int .i64 b, .int .i64 c, .int .i64 d] := by
  have hi := Tryd.underlying3
  have hc1 : Tryd.prog.cellsOf 3 = 1 := by kernel_rfl
  have hc4 : Tryd.prog.cellsOf 148 = 4 := by kernel_rfl
  obtain ⟨y1, y2, y3, y4, n, hx, hl, h1, h2, h3, h4⟩ := Go.Joins.trod_struct4 Tryd.underlying148 h
  obtain ⟨n1, e1, rfl, -⟩ := DataW.trod_int hi h1
  obtain ⟨n2, e2, rfl, -⟩ := DataW.trod_int hi h2
  obtain ⟨n3, e3, rfl, -⟩ := DataW.trod_int hi h3
  obtain ⟨n4, e4, rfl, -⟩ := DataW.trod_int hi h4
  simp at hx
  obtain ⟨⟨rfl, rfl, rfl, rfl⟩, -⟩ := hx
  rw [hc4] at hl
  rw [hc1] at e1 e2 e3 e4
  exact four_of hl e1 e2 e3 e4
theorem gOrd : Tryd.prog.globalNamed "stevedore/block.order" = some 1 := by kernel_rfl
theorem gAgn : Tryd.prog.globalNamed "stevedore/block.again" = some 4 := by kernel_rfl
theorem gSom : Tryd.prog.globalNamed "stevedore/block.someZeros" = some 3 := by kernel_rfl
theorem gMan : Tryd.prog.globalNamed "stevedore/block.manyZeros" = some 2 := by kernel_rfl
theorem tOrd : (Tryd.prog.globals[1]?).map (·.type) = some 106 := by kernel_rfl
theorem tAgn : (Tryd.prog.globals[4]?).map (·.type) = some 148 := by kernel_rfl
theorem tSom : (Tryd.prog.globals[3]?).map (·.type) = some 148 := by kernel_rfl
theorem tMan : (Tryd.prog.globals[2]?).map (·.type) = some 148 := by kernel_rfl
def ordZ : List Int := [16, 17, 18, 0, 8, 7, 9, 6, 10, 5, 11, 4, 12, 3, 13, 2, 14, 1, 15]
def repD (a b c d : Int) : DataW Unit := .agg [.lit (.int .i64 a), .lit (.int .i64 b), .lit (.int .i64 c), .lit (.int .i64 d)]
theorem tbls_of_laid {rest : List (String × DataW Unit)} {W : World} (h : laidMet Tryd.prog (("stevedore/block.order", Lib.tabData .i64 ordZ) :: ("stevedore/block.again", repD 16 3 6 2) :: ("stevedore/block.someZeros", repD 17 3 10 3) :: ("stevedore/block.manyZeros", repD 18 11 138 7) :: rest) W) : Tbls W.heap.size W := by
  obtain ⟨ps, ⟨g1, t1, cs1, f1, p1, q1, hg1, ht1, hv1, hd1, ⟨g2, t2, cs2, f2, p2, q2, hg2, ht2, hv2, hd2, ⟨g3, t3, cs3, f3, p3, q3, hg3, ht3, hv3, hd3, ⟨g4, t4, cs4, f4, p4, q4, hg4, ht4, hv4, hd4, _, _⟩, _⟩, _⟩, _⟩, _⟩ := h
  obtain rfl := Option.some.inj (gOrd.symm.trans hg1)
  obtain rfl := Option.some.inj (tOrd.symm.trans ht1)
  obtain rfl := Option.some.inj (gAgn.symm.trans hg2)
  obtain rfl := Option.some.inj (tAgn.symm.trans ht2)
  obtain rfl := Option.some.inj (gSom.symm.trans hg3)
  obtain rfl := Option.some.inj (tSom.symm.trans ht3)
  obtain rfl := Option.some.inj (gMan.symm.trans hg4)
  obtain rfl := Option.some.inj (tMan.symm.trans ht4)
  have hc := Lib.cells_of_tab Tryd.underlying106 Tryd.underlying3 (by kernel_rfl) (by kernel_rfl) hd1
  have at1 : ∀ i v, cs1.toList[i]? = some v → W.cell? ⟨1, i, none⟩ = some v := fun i v hv => by
    rw [World.var?_cell hg1 hv1 i]
    simpa using hv
  have at2 : ∀ i v, cs2.toList[i]? = some v → W.cell? ⟨4, i, none⟩ = some v := fun i v hv => by
    rw [World.var?_cell hg2 hv2 i]
    simpa using hv
  have at3 : ∀ i v, cs3.toList[i]? = some v → W.cell? ⟨3, i, none⟩ = some v := fun i v hv => by
    rw [World.var?_cell hg3 hv3 i]
    simpa using hv
  have at4 : ∀ i v, cs4.toList[i]? = some v → W.cell? ⟨2, i, none⟩ = some v := fun i v hv => by
    rw [World.var?_cell hg4 hv4 i]
    simpa using hv
  have hcell : ∀ i, i < 19 → W.cell? ⟨1, i, none⟩ = some (.int .i64 ((InfMath.order.getD i 0 : Nat) : Int)) := fun i hi => by
    refine at1 i _ ?_
    rw [hc]
    have : i = 0 ∨ i = 1 ∨ i = 2 ∨ i = 3 ∨ i = 4 ∨ i = 5 ∨ i = 6 ∨ i = 7 ∨ i = 8 ∨ i = 9 ∨ i = 10 ∨ i = 11 ∨ i = 12 ∨ i = 13 ∨ i = 14 ∨ i = 15 ∨ i = 16 ∨ i = 17 ∨ i = 18 := by omega
    rcases this with rfl | rfl | rfl | rfl | rfl | rfl | rfl | rfl | rfl | rfl | rfl | rfl | rfl | rfl | rfl | rfl | rfl | rfl | rfl <;> rfl
  have c2 := rep_cells hd2
  have c3 := rep_cells hd3
  have c4 := rep_cells hd4
  have A2 : W.cell? ⟨4, 0, none⟩ = some (.int .i64 16) := at2 0 _ (by rw [c2]; rfl)
  have A3 : W.cell? ⟨3, 0, none⟩ = some (.int .i64 17) := at3 0 _ (by rw [c3]; rfl)
  have A4 : W.cell? ⟨2, 0, none⟩ = some (.int .i64 18) := at4 0 _ (by rw [c4]; rfl)
  exact ⟨block_lt_of_cell (hcell 0 (by omega)), block_lt_of_cell A2, block_lt_of_cell A3, block_lt_of_cell A4, hcell,
    ⟨A2, at2 1 _ (by rw [c2]; rfl), at2 2 _ (by rw [c2]; rfl), at2 3 _ (by rw [c2]; rfl)⟩,
    ⟨A3, at3 1 _ (by rw [c3]; rfl), at3 2 _ (by rw [c3]; rfl), at3 3 _ (by rw [c3]; rfl)⟩,
    ⟨A4, at4 1 _ (by rw [c4]; rfl), at4 2 _ (by rw [c4]; rfl), at4 3 _ (by rw [c4]; rfl)⟩⟩
end Go.Proofs.YtbjjkhlebdaoaaaDoor.BlkC
end

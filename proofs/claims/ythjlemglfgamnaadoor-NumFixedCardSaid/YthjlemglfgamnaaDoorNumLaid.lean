import Derived.Test.YthjlemglfgamnaaDoorNumF
namespace Go.Proofs.YthjlemglfgamnaaDoor.NumC
open Go.RowKit Go.My NumMath

theorem gBits : Tryd.prog.globalNamed "math/bits.deBruijn64tab" = some 5 := by kernel_rfl
theorem tBits : (Tryd.prog.globals[5]?).map (·.type) = some 114 := by kernel_rfl
def bitsZ : List Int := [0, 1, 56, 2, 57, 49, 28, 3, 61, 58, 42, 50, 38, 29, 17, 4, 62, 47, 59, 36, 45, 43, 51, 22, 53, 39, 33, 30, 24, 18, 12, 5, 63, 55, 48, 27, 60, 41, 37, 16, 46, 35, 44, 21, 52, 32, 23, 11, 54, 26, 40, 15, 34, 20, 31, 10, 25, 14, 19, 9, 13, 8, 7, 6]
/-- Whatever list begins with the two tables of math/bits. -/
theorem tab_of_laid {d : DataW Unit} {x : String} {rest : List (String × DataW Unit)} {W : World} (h : laidMet Tryd.prog ((x, d) :: ("math/bits.deBruijn64tab", Lib.tabData .u8 bitsZ) :: rest) W) : Tab W := by
  obtain ⟨ps, ⟨g0, t0, cs0, f0, p0, q0, hg0, ht0, hv0, hd0, ⟨g1, t1, cs1, f1, p1, q1, hg1, ht1, hv1, hd1, _, _⟩, _⟩, _, _⟩ := h
  obtain rfl := Option.some.inj (gBits.symm.trans hg1)
  obtain rfl := Option.some.inj (tBits.symm.trans ht1)
  have hc := Lib.cells_of_tab Tryd.underlying114 Tryd.underlying5 (by kernel_rfl) (by kernel_rfl) hd1
  have at_ : ∀ i v, cs1.toList[i]? = some v → W.cell? ⟨5, i, none⟩ = some v := fun i v hv => by
    rw [World.var?_cell hg1 hv1 i]
    simpa using hv
  have h8 := at_ 7 (.int .u8 3) (by rw [hc]; rfl)
  have h16 := at_ 15 (.int .u8 4) (by rw [hc]; rfl)
  exact ⟨block_lt_of_cell h8, h8, h16⟩
end Go.Proofs.YthjlemglfgamnaaDoor.NumC

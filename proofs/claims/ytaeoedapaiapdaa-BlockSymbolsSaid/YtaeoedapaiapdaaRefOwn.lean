/-
  What bytes a call makes of its own (namespace RefC), without functions of the document's answer: for seats where stevedoreref5's Of, Bytes, Number are not all called.
-/
import Derived.Test.YtaeoedapaiapdaaRows
import Derived.Test.YtaeoedapaiapdaaLib
import Derived.Test.YtaeoedapaiapdaaBitMath
import Derived.Laws.Pointers
import Derived.Deep.QuietTactic
import Derived.BigQuiet
import Derived.StillTailTactics
namespace Go.Proofs.Ytaeoedapaiapdaa.RefC
open Go.RowKit Go.My BitMath

theorem info5 : (Try.prog.info? 5).map (fun i => (i.zero, i.size, i.bytes)) = some (some (.int .u8 0), 1, 1) := by kernel_rfl

theorem ret_str {a b : ByteArray} (h : a = b) : Ending.returned (.string a) = .returned (.string b) := by rw [h]
/-! ### bytes written into a row of the call's own -/
theorem own_store {E : TypeId} {base : Nat} {w : World} {g n c : Nat} {l : List UInt8} (h : Own E base w (.slice (some ⟨g, 0, none⟩) n c) l) (hn : l.length = n) (i : Nat) (b : UInt8) :
    Own E base (w.setCell ⟨g, i, none⟩ (bv b)) (.slice (some ⟨g, 0, none⟩) n c) (l.set i b) := by
  subst hn
  have := (World.ownsRow.stored h i (bv b)).1
  unfold Own
  rw [List.length_set, List.map_set]
  exact this
theorem own_cell {E : TypeId} {base : Nat} {w : World} {g n c : Nat} {l : List UInt8} (h : Own E base w (.slice (some ⟨g, 0, none⟩) n c) l) (hn : l.length = n) (i : Nat) (hi : i < l.length) : w.cell? ⟨g, i, none⟩ = some (bv l[i]) := by
  subst hn
  have hl := h
  unfold Own at hl
  have hcell := World.ownsRow.cellAt hl i (by simpa using hi)
  rw [hcell, List.getElem?_map, List.getElem?_eq_getElem hi]
  rfl
theorem own_free {E : TypeId} {base : Nat} {w : World} {g n c : Nat} {l : List UInt8} (h : Own E base w (.slice (some ⟨g, 0, none⟩) n c) l) (hn : l.length = n) (i : Nat) : w.frozen? ⟨g, i, none⟩ = false := by
  subst hn
  exact World.ownsRow.frozenAt h i
end Go.Proofs.Ytaeoedapaiapdaa.RefC

/-
  Rows of whole numbers in memory, as lists or as functions of the place.
-/
import Derived.Test.YtaeoedapaiapdaaRows
import Derived.Test.YtaeoedapaiapdaaRow
import Derived.Test.YtaeoedapaiapdaaPkMath
namespace Go.Proofs.Ytaeoedapaiapdaa.PkC
open Go.RowKit Go.My PackMath

def lv (A : List Nat) : List Value := A.map fun (x : Nat) => Value.int .i64 (x : Int)
/-- A row of lengths. -/
def cel (n : Nat) (acc : Nat → Nat) : List Value := (List.range n).map fun j => Value.int .i64 ((acc j : Nat) : Int)
theorem cel_get (n : Nat) (acc : Nat → Nat) (j : Nat) (h : j < n) : (cel n acc)[j]? = some (.int .i64 ((acc j : Nat) : Int)) := by simp [cel, h]
theorem cel_upd (n : Nat) (f f' : Nat → Nat) (q v : Nat) (h : ∀ j, j < n → f' j = if j = q then v else f j) : (cel n f).toArray.setIfInBounds q (.int .i64 ((v : Nat) : Int)) = (cel n f').toArray := by
  apply Array.ext
  · simp [cel]
  · intro j h1 h2
    have hj : j < n := by simpa [cel] using h2
    rw [Array.getElem_setIfInBounds]
    simp only [cel, List.getElem_toArray, List.getElem_map, List.getElem_range, h j hj]
    · by_cases e : q = j
      · subst e; rw [if_pos rfl, if_pos rfl]
      · rw [if_neg e, if_neg (fun h => e h.symm)]
    · simpa [cel] using hj
theorem cel_zero (n : Nat) : List.replicate n (Value.int .i64 0) = cel n (fun _ => 0) := by
  apply List.ext_getElem
  · simp [cel]
  · intro j h1 h2; simp [cel]
theorem cel_lv (n : Nat) (f : Nat → Nat) : cel n f = lv ((List.range n).map f) := by simp [cel, lv]
theorem Blk.set_cel {w : World} {g n : Nat} {f : Nat → Nat} (h : Blk w g 3 (cel n f).toArray) (q v : Nat) : Blk (w.setCell ⟨g, q, none⟩ (.int .i64 ((v : Nat) : Int))) g 3 (cel n (fun j => if j = q then v else f j)).toArray := by
  have := h.set_ q (.int .i64 ((v : Nat) : Int))
  rwa [cel_upd n f (fun j => if j = q then v else f j) q v (fun j _ => rfl)] at this
theorem Blk.set_far {w : World} {g g' : Nat} {t : TypeId} {cs : Array Value} (h : Blk w g t cs) (hne : g ≠ g') (i : Nat) (u : Value) : Blk (w.setCell ⟨g', i, none⟩ u) g t cs := h.same (Below.heap_setCell w ⟨g', i, none⟩ u g hne)
theorem cel_cell {w : World} {g n : Nat} {f : Nat → Nat} (h : Blk w g 3 (cel n f).toArray) (q : Nat) (hq : q < n) : w.cell? ⟨g, q, none⟩ = some (.int .i64 ((f q : Nat) : Int)) := by
  rw [h.cell, List.getElem?_toArray, cel_get _ _ _ hq]
theorem lv_get (l : List Nat) (i : Nat) (h : i < (lv l).length) : (lv l)[i] = .int .i64 ((l.getD i 0 : Nat) : Int) := by
  have h' : i < l.length := by simpa [lv] using h
  simp [lv, List.getD_eq_getElem?_getD, h']
end Go.Proofs.Ytaeoedapaiapdaa.PkC

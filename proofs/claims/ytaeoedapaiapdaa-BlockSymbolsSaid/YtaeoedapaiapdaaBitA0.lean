/-
  Writer: fits, NewWriter (XBitA has turned and the document's Put besides).
-/
import Derived.Test.YtaeoedapaiapdaaRows
import Derived.Test.YtaeoedapaiapdaaLib
import Derived.Test.YtaeoedapaiapdaaBitMath
import Derived.Laws.Pointers
import Derived.Deep.QuietTactic
import Derived.BigQuiet
namespace Go.Proofs.Ytaeoedapaiapdaa.BitC
open Go.RowKit Go.My BitMath

theorem info5 : (Try.prog.info? 5).map (fun i => (i.zero, i.size, i.bytes)) = some (some (.int .u8 0), 1, 1) := by kernel_rfl

theorem fits_yes (n : Int) (w : World) (h1 : 1 ≤ n) (h2 : n ≤ 32) : Calls Try.prog 29 #[.int .i64 n] w fun e w' => e = .returned (.bool true) ∧ w = w' := by
  go_enter Try.func29, Try.ntmps29
  go_wp2
  go_ret
  exact ⟨by simp, rfl⟩
theorem fits_no (n : Int) (w : World) (h : n < 1 ∨ 32 < n) : Calls Try.prog 29 #[.int .i64 n] w fun e w' => e = .returned (.bool false) ∧ w = w' := by
  rcases h with h | h
  · go_enter Try.func29, Try.ntmps29
    go_wp2
    go_ret
    exact ⟨rfl, rfl⟩
  · have h1 : 1 ≤ n := by omega
    have h8 : ¬ n ≤ 32 := by omega
    go_enter Try.func29, Try.ntmps29
    go_wp2
    go_ret
    exact ⟨by simp, rfl⟩

theorem new_writer (w : World) : Calls Try.prog 17 #[] w fun e w' => e = .returned (.pointer (some ⟨w.heap.size, 0, none⟩)) ∧ w.alloc (.cells #[.slice none 0 0, .int .u64 0, .int .i64 0] 62) = w' := by
  go_enter Try.func17, Try.ntmps17
  go_wp2
  go_ret
  exact ⟨rfl, rfl⟩

/-! ### bytes written into a row of the call's own -/
theorem own_store {E : TypeId} {base : Nat} {w : World} {g n c : Nat} {l : List UInt8} (h : Own E base w (.slice (some ⟨g, 0, none⟩) n c) l) (hn : l.length = n) (i : Nat) (b : UInt8) :
    Own E base (w.setCell ⟨g, i, none⟩ (bv b)) (.slice (some ⟨g, 0, none⟩) n c) (l.set i b) := by
  subst hn
  have := (World.ownsRow.stored h i (bv b)).1
  unfold Own
  rw [List.length_set, List.map_set]
  exact this
theorem own_cell {E : TypeId} {base : Nat} {w : World} {g n c : Nat} {l : List UInt8} (h : Own E base w (.slice (some ⟨g, 0, none⟩) n c) l) (hn : l.length = n) (i : Nat) (hi : i < l.length) : w.cell? ⟨g, i, none⟩ = some (bv l[i]) := by
  subst hn
  have hl := h
  unfold Own at hl
  have hcell := World.ownsRow.cellAt hl i (by simpa using hi)
  rw [hcell, List.getElem?_map, List.getElem?_eq_getElem hi]
  rfl
theorem own_free {E : TypeId} {base : Nat} {w : World} {g n c : Nat} {l : List UInt8} (h : Own E base w (.slice (some ⟨g, 0, none⟩) n c) l) (hn : l.length = n) (i : Nat) : w.frozen? ⟨g, i, none⟩ = false := by
  subst hn
  exact World.ownsRow.frozenAt h i
end Go.Proofs.Ytaeoedapaiapdaa.BitC

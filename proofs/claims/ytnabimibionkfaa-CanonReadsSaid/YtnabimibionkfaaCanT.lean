/-
  stevedorelaw7.told.
-/
import Derived.Test.YtnabimibionkfaaCanE
namespace Go.Proofs.Ytnabimibionkfaa.CanC
open Go.RowKit Go.My BitMath CanMath

theorem row_new (w : World) (E : TypeId) (cs : Array Value) (h : cs.size ≤ 1000000) : RowIn (w.alloc (.cells cs E)) (some ⟨w.heap.size, 0, none⟩) cs.size cs.size cs.toList :=
  ⟨by simp, Nat.le_refl _, by omega, (fun h => by cases h), .inr ⟨w.heap.size, 0, rfl, by simp, fun i hi => by
    rw [cell_of_row _ _ _ _ _ _ (heap_alloc_new w _), Nat.zero_add]
    rw [Array.getElem?_eq_getElem (by simpa using hi)]
    simp⟩⟩

theorem told_good : Good [2, 1, 3, 3] := ⟨by decide, by decide⟩
theorem told_over : Good [1, 1, 1] := ⟨by decide, by decide⟩
theorem told_bad : ¬ Good [16] := fun h => by have := h.2 16 (by simp); omega
theorem told_words : allWords (nat [2, 1, 3, 3]) = [.int .u32 2, .int .u32 0, .int .u32 6, .int .u32 7] := by
  have e : words (nat [2, 1, 3, 3]) (nat [2, 1, 3, 3]).length = [2, 0, 6, 7] := by decide +kernel
  unfold allWords; rw [e]; rfl
theorem told_kind : kindN (nat [2, 1, 3, 3]) = 1 := by decide +kernel
theorem told_kind2 : kindN (nat [1, 1, 1]) = 4 := by decide +kernel

set_option maxRecDepth 100000 in
set_option maxHeartbeats 4000000 in
theorem told_any (w : World) : Calls Try.prog 7 #[] w fun e w' => e = .returned (.bool true) ∧ Below w.heap.size w w' := by
  go_enter Try.func7, Try.ntmps7
  go_wp2_with fail
  have hr1 : RowIn (w.alloc (.cells #[.int .i64 2, .int .i64 1, .int .i64 3, .int .i64 3] 3)) (some ⟨w.heap.size, 0, none⟩) 4 4 (([2, 1, 3, 3] : List Int).map iv) := row_new w 3 #[.int .i64 2, .int .i64 1, .int .i64 3, .int .i64 3] (by decide)
  refine (codes_ok _ 4 4 [2, 1, 3, 3] _ hr1 told_good (by decide +kernel)).mono ?_
  rintro e w2 ⟨g, rfl, hg, hown, hb⟩
  rw [told_words] at hown
  have HB : Hid (Below w.heap.size w w2) := Lib.hid (((Below.refl _ w).alloc (Nat.le_refl _) _).trans (hb.mono (by simp)))
  have hc0 : w2.cell? ⟨g, 0, none⟩ = some (.int .u32 2) := hown.cell rfl 0 (by decide)
  have hc1 : w2.cell? ⟨g, 1, none⟩ = some (.int .u32 0) := hown.cell rfl 1 (by decide)
  have hc2 : w2.cell? ⟨g, 2, none⟩ = some (.int .u32 6) := hown.cell rfl 2 (by decide)
  have hc3 : w2.cell? ⟨g, 3, none⟩ = some (.int .u32 7) := hown.cell rfl 3 (by decide)
  have hl : ([2, 1, 3, 3] : List Int).length = 4 := rfl
  rw [hl]
  clear hl hr1 hown hb hg
  go_wp2_with fail
  have hr2 : RowIn (w2.alloc (.cells #[.int .i64 2, .int .i64 1, .int .i64 3, .int .i64 3] 3)) (some ⟨w2.heap.size, 0, none⟩) 4 4 (([2, 1, 3, 3] : List Int).map iv) := row_new w2 3 #[.int .i64 2, .int .i64 1, .int .i64 3, .int .i64 3] (by decide)
  refine (kind_good hr2 told_good).mono ?_
  rw [told_kind]
  rintro e w3 ⟨rfl, hb3⟩
  have HB3 : Hid (Below w.heap.size w w3) := Lib.hid ((HB.out.alloc HB.out.size _).trans (hb3.mono (by have := HB.out.size; simp; omega)))
  clear hr2 hb3 hc0 hc1 hc2 hc3
  go_wp2_with fail
  have hr3 : RowIn (w3.alloc (.cells #[.int .i64 1, .int .i64 1, .int .i64 1] 3)) (some ⟨w3.heap.size, 0, none⟩) 3 3 (([1, 1, 1] : List Int).map iv) := row_new w3 3 #[.int .i64 1, .int .i64 1, .int .i64 1] (by decide)
  refine (kind_good hr3 told_over).mono ?_
  rw [told_kind2]
  rintro e w4 ⟨rfl, hb4⟩
  have HB4 : Hid (Below w.heap.size w w4) := Lib.hid ((HB3.out.alloc HB3.out.size _).trans (hb4.mono (by have := HB3.out.size; simp; omega)))
  clear hr3 hb4
  go_wp2_with fail
  have hr5 : RowIn (w4.alloc (.cells #[.int .i64 16] 3)) (some ⟨w4.heap.size, 0, none⟩) 1 1 (([16] : List Int).map iv) := row_new w4 3 #[.int .i64 16] (by decide)
  refine (kraft_bad hr5 told_bad).mono ?_
  rintro e w5 ⟨rfl, hb5⟩
  have HB5 : Hid (Below w.heap.size w w5) := Lib.hid ((HB4.out.alloc HB4.out.size _).trans (hb5.mono (by have := HB4.out.size; simp; omega)))
  clear hr5 hb5
  go_wp2_with fail
  go_ret
  exact ⟨rfl, HB5.out⟩
end Go.Proofs.Ytnabimibionkfaa.CanC

/-
  stevedorelaw8.told.
-/
import Derived.Test.YtgmdbcmfncapdaaTabO
namespace Go.Proofs.Ytgmdbcmfncapdaa.TabC
open Go.RowKit Go.My BitMath CanMath TabMath CanC

theorem row_new (w : World) (E : TypeId) (cs : Array Value) (h : cs.size ≤ 1000000) : RowIn (w.alloc (.cells cs E)) (some ⟨w.heap.size, 0, none⟩) cs.size cs.size cs.toList :=
  ⟨by simp, Nat.le_refl _, by omega, (fun h => by cases h), .inr ⟨w.heap.size, 0, rfl, by simp, fun i hi => by
    rw [cell_of_row _ _ _ _ _ _ (heap_alloc_new w _), Nat.zero_add]
    rw [Array.getElem?_eq_getElem (by simpa using hi)]
    simp⟩⟩
/-- A slice of ints that came in (what the frame of a law hands over). -/
theorem ints_row {w : World} {a : Option Addr} {len cap : Nat} {zs : List Int}
    (h : (a = none ∧ len = 0 ∧ cap = 0 ∧ zs = []) ∨
      ∃ x, a = some x ∧ len ≤ cap ∧ cap ≤ maxLen ∧ zs.length = cap ∧ (∀ i, i < zs.length → w.cell? (x.add i) = some (.int .i64 (zs.getD i 0))) ∧ ∀ n ∈ zs, (Lit.int .i64 n).wf = true) : ∃ ys : List Int, RowIn w a len cap (ys.map iv) ∧ ∀ y ∈ ys, -9223372036854775808 ≤ y ∧ y ≤ 9223372036854775807 := by
  rcases h with ⟨rfl, rfl, rfl, rfl⟩ | ⟨x, rfl, h1, h2, h3, h4, h5⟩
  · exact ⟨[], RowIn.none_ w, fun y hy => by simp at hy⟩
  · unfold maxLen at h2
    refine ⟨zs.take len, ?_, fun y hy => wf_int (h5 y (List.mem_of_mem_take hy))⟩
    refine ⟨by simp; omega, h1, h2, (fun h => by cases h), ?_⟩
    by_cases h0 : len = 0
    · exact .inl h0
    · right
      obtain ⟨b, off, spot⟩ := x
      have hc := h4 0 (by omega)
      obtain rfl : spot = Option.none := by simpa [Addr.add] using World.cell?_spot hc
      refine ⟨b, off, rfl, block_lt_of_cell hc, fun i hi => ?_⟩
      have hi' : i < zs.length := by simp at hi; omega
      have := h4 i hi'
      rw [addr_add] at this
      rw [this, List.getElem_map, List.getElem_take, List.getD_eq_getElem?_getD, List.getElem?_eq_getElem hi']
      rfl

theorem told_good : CanC.Good [2, 1, 3, 3] := ⟨by decide, by decide⟩
theorem told_none : CanC.Good [] := ⟨by decide, fun z hz => by simp at hz⟩
theorem told_find : ansV (who (nat [2, 1, 3, 3]) (1 % 2 ^ cl 2)) (cl 2) = .tuple #[.int .i64 0, .int .i64 2, .int .i64 0] := by
  have e : who (nat [2, 1, 3, 3]) (1 % 2 ^ cl 2) = ⟨0, 2, 0⟩ := by decide +kernel
  rw [e]; rfl
theorem told_find2 : ansV (who (nat [2, 1, 3, 3]) (3 % 2 ^ cl 2)) (cl 2) = .tuple #[.int .i64 0, .int .i64 0, .int .i64 5] := by
  have e : who (nat [2, 1, 3, 3]) (3 % 2 ^ cl 2) = ⟨2, 3, 0⟩ := by decide +kernel
  rw [e]; rfl

set_option maxRecDepth 100000 in
set_option maxHeartbeats 4000000 in
theorem told_any (w : World) : Calls Try.prog 6 #[] w fun e w' => e = .returned (.bool true) ∧ Below w.heap.size w w' := by
  go_enter Try.func6, Try.ntmps6
  go_wp2_with fail
  have hr1 : RowIn (w.alloc (.cells #[.int .i64 2, .int .i64 1, .int .i64 3, .int .i64 3] 3)) (some ⟨w.heap.size, 0, none⟩) 4 4 (([2, 1, 3, 3] : List Int).map iv) := row_new w 3 #[.int .i64 2, .int .i64 1, .int .i64 3, .int .i64 3] (by decide)
  refine (new_ok 2 hr1 told_good (by decide +kernel) (by omega) (by omega)).mono ?_
  rintro e w2 ⟨g, rfl, ht, hb⟩
  have HB : Hid (Below w.heap.size w w2) := Lib.hid (((Below.refl _ w).alloc (Nat.le_refl _) _).trans (hb.mono (by simp)))
  have HT := Lib.hid ht
  clear hr1 ht hb
  go_wp2_with fail
  refine (find_is (v := 1) (n := 2) HT.out told_good (by decide +kernel) (by omega) (by omega) (by omega)).mono ?_
  rw [told_find]
  rintro e w3 ⟨rfl, hb⟩
  have HB3 := Lib.hid (HB.out.trans (hb.mono HB.out.size))
  have HT3 := Lib.hid (HT.out.below hb)
  clear hb HB HT
  go_wp2_with fail
  refine (find_is (v := 3) (n := 2) HT3.out told_good (by decide +kernel) (by omega) (by omega) (by omega)).mono ?_
  rw [told_find2]
  rintro e w4 ⟨rfl, hb⟩
  have HB4 := Lib.hid (HB3.out.trans (hb.mono HB3.out.size))
  clear hb HB3 HT3
  go_wp2_with fail
  refine (new_arg (zs := []) 0 (RowIn.none_ w4) told_none (by decide +kernel) (by omega)).mono ?_
  rintro e w5 ⟨rfl, hb⟩
  have HB5 := Lib.hid (HB4.out.trans (hb.mono HB4.out.size))
  clear hb HB4
  go_wp2_with fail
  go_ret
  exact ⟨rfl, HB5.out⟩
end Go.Proofs.Ytgmdbcmfncapdaa.TabC

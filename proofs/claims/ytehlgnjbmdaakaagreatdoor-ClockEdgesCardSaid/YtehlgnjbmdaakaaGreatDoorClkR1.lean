import Derived.Test.YtehlgnjbmdaakaaGreatDoorClkS
namespace Go.Proofs.YtehlgnjbmdaakaaGreatDoor.ClkC
open Go.RowKit Go.My Clk

set_option maxRecDepth 100000 in
set_option maxHeartbeats 4000000 in
theorem refsec_0 (y m d h mi s : Int) (w : World)  (k0 : y < 1) :
    Calls Tryz.prog 25 #[dateV y m d h mi s] w fun e w' => e = .returned (.tuple #[.int .i64 0, .bool false]) ∧ Below w.heap.size w w' := by
  unfold dateV
  have hB : Below (w.heap.size + 1) (w.alloc (.cells #[.int .i64 y, .int .i64 m, .int .i64 d, .int .i64 h, .int .i64 mi, .int .i64 s] 35)) (w.alloc (.cells #[.int .i64 y, .int .i64 m, .int .i64 d, .int .i64 h, .int .i64 mi, .int .i64 s] 35)) := Below.refl _ _
  have hs : w.heap.size + 1 ≤ (w.alloc (.cells #[.int .i64 y, .int .i64 m, .int .i64 d, .int .i64 h, .int .i64 mi, .int .i64 s] 35)).heap.size := by simp
  have c1 := fun p : Later (w.alloc (.cells #[.int .i64 y, .int .i64 m, .int .i64 d, .int .i64 h, .int .i64 mi, .int .i64 s] 35)) => (later_box hB hs p).1
  have c2 := fun p : Later (w.alloc (.cells #[.int .i64 y, .int .i64 m, .int .i64 d, .int .i64 h, .int .i64 mi, .int .i64 s] 35)) => (later_box hB hs p).2.1
  have c3 := fun p : Later (w.alloc (.cells #[.int .i64 y, .int .i64 m, .int .i64 d, .int .i64 h, .int .i64 mi, .int .i64 s] 35)) => (later_box hB hs p).2.2.1
  have c4 := fun p : Later (w.alloc (.cells #[.int .i64 y, .int .i64 m, .int .i64 d, .int .i64 h, .int .i64 mi, .int .i64 s] 35)) => (later_box hB hs p).2.2.2.1
  have c5 := fun p : Later (w.alloc (.cells #[.int .i64 y, .int .i64 m, .int .i64 d, .int .i64 h, .int .i64 mi, .int .i64 s] 35)) => (later_box hB hs p).2.2.2.2.1
  have c6 := fun p : Later (w.alloc (.cells #[.int .i64 y, .int .i64 m, .int .i64 d, .int .i64 h, .int .i64 mi, .int .i64 s] 35)) => (later_box hB hs p).2.2.2.2.2
  clear hB hs
  go_enter Tryz.func25, Tryz.ntmps25
  go_wp2_with (refine wp_region_later (by kernel_rfl) (by kernel_rfl) ?_)
  repeat (go_big_quiet_step (first | (go_at_call 38; refine later_of (month_any y m _ (by assumption) (by assumption)))))
  refine wpQuiet_nil ?_
  rintro _ ⟨p, rfl⟩
  clear c1 c2 c3 c4 c5 c6
  generalize hp : p.at' = W3
  have HP := Lib.hid hp
  clear hp
  go_wp2_with fail
  go_ret2
  exact ⟨rfl, HP.out ▸ (alloc_below w _).trans (p.kept.mono (by simp))⟩
set_option maxRecDepth 100000 in
set_option maxHeartbeats 4000000 in
theorem refsec_1 (y m d h mi s : Int) (w : World) (k0 : decide (y < 1) = false) (k1 : 9999 < y) :
    Calls Tryz.prog 25 #[dateV y m d h mi s] w fun e w' => e = .returned (.tuple #[.int .i64 0, .bool false]) ∧ Below w.heap.size w w' := by
  unfold dateV
  have hB : Below (w.heap.size + 1) (w.alloc (.cells #[.int .i64 y, .int .i64 m, .int .i64 d, .int .i64 h, .int .i64 mi, .int .i64 s] 35)) (w.alloc (.cells #[.int .i64 y, .int .i64 m, .int .i64 d, .int .i64 h, .int .i64 mi, .int .i64 s] 35)) := Below.refl _ _
  have hs : w.heap.size + 1 ≤ (w.alloc (.cells #[.int .i64 y, .int .i64 m, .int .i64 d, .int .i64 h, .int .i64 mi, .int .i64 s] 35)).heap.size := by simp
  have c1 := fun p : Later (w.alloc (.cells #[.int .i64 y, .int .i64 m, .int .i64 d, .int .i64 h, .int .i64 mi, .int .i64 s] 35)) => (later_box hB hs p).1
  have c2 := fun p : Later (w.alloc (.cells #[.int .i64 y, .int .i64 m, .int .i64 d, .int .i64 h, .int .i64 mi, .int .i64 s] 35)) => (later_box hB hs p).2.1
  have c3 := fun p : Later (w.alloc (.cells #[.int .i64 y, .int .i64 m, .int .i64 d, .int .i64 h, .int .i64 mi, .int .i64 s] 35)) => (later_box hB hs p).2.2.1
  have c4 := fun p : Later (w.alloc (.cells #[.int .i64 y, .int .i64 m, .int .i64 d, .int .i64 h, .int .i64 mi, .int .i64 s] 35)) => (later_box hB hs p).2.2.2.1
  have c5 := fun p : Later (w.alloc (.cells #[.int .i64 y, .int .i64 m, .int .i64 d, .int .i64 h, .int .i64 mi, .int .i64 s] 35)) => (later_box hB hs p).2.2.2.2.1
  have c6 := fun p : Later (w.alloc (.cells #[.int .i64 y, .int .i64 m, .int .i64 d, .int .i64 h, .int .i64 mi, .int .i64 s] 35)) => (later_box hB hs p).2.2.2.2.2
  clear hB hs
  go_enter Tryz.func25, Tryz.ntmps25
  go_wp2_with (refine wp_region_later (by kernel_rfl) (by kernel_rfl) ?_)
  repeat (go_big_quiet_step (first | (go_at_call 38; refine later_of (month_any y m _ (by assumption) (by assumption)))))
  refine wpQuiet_nil ?_
  rintro _ ⟨p, rfl⟩
  clear c1 c2 c3 c4 c5 c6
  generalize hp : p.at' = W3
  have HP := Lib.hid hp
  clear hp
  go_wp2_with fail
  go_ret2
  exact ⟨rfl, HP.out ▸ (alloc_below w _).trans (p.kept.mono (by simp))⟩
set_option maxRecDepth 100000 in
set_option maxHeartbeats 4000000 in
theorem refsec_2 (y m d h mi s : Int) (w : World) (k0 : decide (y < 1) = false) (k1 : decide (9999 < y) = false) (k2 : m < 1) :
    Calls Tryz.prog 25 #[dateV y m d h mi s] w fun e w' => e = .returned (.tuple #[.int .i64 0, .bool false]) ∧ Below w.heap.size w w' := by
  unfold dateV
  have hB : Below (w.heap.size + 1) (w.alloc (.cells #[.int .i64 y, .int .i64 m, .int .i64 d, .int .i64 h, .int .i64 mi, .int .i64 s] 35)) (w.alloc (.cells #[.int .i64 y, .int .i64 m, .int .i64 d, .int .i64 h, .int .i64 mi, .int .i64 s] 35)) := Below.refl _ _
  have hs : w.heap.size + 1 ≤ (w.alloc (.cells #[.int .i64 y, .int .i64 m, .int .i64 d, .int .i64 h, .int .i64 mi, .int .i64 s] 35)).heap.size := by simp
  have c1 := fun p : Later (w.alloc (.cells #[.int .i64 y, .int .i64 m, .int .i64 d, .int .i64 h, .int .i64 mi, .int .i64 s] 35)) => (later_box hB hs p).1
  have c2 := fun p : Later (w.alloc (.cells #[.int .i64 y, .int .i64 m, .int .i64 d, .int .i64 h, .int .i64 mi, .int .i64 s] 35)) => (later_box hB hs p).2.1
  have c3 := fun p : Later (w.alloc (.cells #[.int .i64 y, .int .i64 m, .int .i64 d, .int .i64 h, .int .i64 mi, .int .i64 s] 35)) => (later_box hB hs p).2.2.1
  have c4 := fun p : Later (w.alloc (.cells #[.int .i64 y, .int .i64 m, .int .i64 d, .int .i64 h, .int .i64 mi, .int .i64 s] 35)) => (later_box hB hs p).2.2.2.1
  have c5 := fun p : Later (w.alloc (.cells #[.int .i64 y, .int .i64 m, .int .i64 d, .int .i64 h, .int .i64 mi, .int .i64 s] 35)) => (later_box hB hs p).2.2.2.2.1
  have c6 := fun p : Later (w.alloc (.cells #[.int .i64 y, .int .i64 m, .int .i64 d, .int .i64 h, .int .i64 mi, .int .i64 s] 35)) => (later_box hB hs p).2.2.2.2.2
  clear hB hs
  go_enter Tryz.func25, Tryz.ntmps25
  go_wp2_with (refine wp_region_later (by kernel_rfl) (by kernel_rfl) ?_)
  repeat (go_big_quiet_step (first | (go_at_call 38; refine later_of (month_any y m _ (by assumption) (by assumption)))))
  refine wpQuiet_nil ?_
  rintro _ ⟨p, rfl⟩
  clear c1 c2 c3 c4 c5 c6
  generalize hp : p.at' = W3
  have HP := Lib.hid hp
  clear hp
  go_wp2_with fail
  go_ret2
  exact ⟨rfl, HP.out ▸ (alloc_below w _).trans (p.kept.mono (by simp))⟩
set_option maxRecDepth 100000 in
set_option maxHeartbeats 4000000 in
theorem refsec_3 (y m d h mi s : Int) (w : World) (k0 : decide (y < 1) = false) (k1 : decide (9999 < y) = false) (k2 : decide (m < 1) = false) (k3 : 12 < m) :
    Calls Tryz.prog 25 #[dateV y m d h mi s] w fun e w' => e = .returned (.tuple #[.int .i64 0, .bool false]) ∧ Below w.heap.size w w' := by
  unfold dateV
  have hB : Below (w.heap.size + 1) (w.alloc (.cells #[.int .i64 y, .int .i64 m, .int .i64 d, .int .i64 h, .int .i64 mi, .int .i64 s] 35)) (w.alloc (.cells #[.int .i64 y, .int .i64 m, .int .i64 d, .int .i64 h, .int .i64 mi, .int .i64 s] 35)) := Below.refl _ _
  have hs : w.heap.size + 1 ≤ (w.alloc (.cells #[.int .i64 y, .int .i64 m, .int .i64 d, .int .i64 h, .int .i64 mi, .int .i64 s] 35)).heap.size := by simp
  have c1 := fun p : Later (w.alloc (.cells #[.int .i64 y, .int .i64 m, .int .i64 d, .int .i64 h, .int .i64 mi, .int .i64 s] 35)) => (later_box hB hs p).1
  have c2 := fun p : Later (w.alloc (.cells #[.int .i64 y, .int .i64 m, .int .i64 d, .int .i64 h, .int .i64 mi, .int .i64 s] 35)) => (later_box hB hs p).2.1
  have c3 := fun p : Later (w.alloc (.cells #[.int .i64 y, .int .i64 m, .int .i64 d, .int .i64 h, .int .i64 mi, .int .i64 s] 35)) => (later_box hB hs p).2.2.1
  have c4 := fun p : Later (w.alloc (.cells #[.int .i64 y, .int .i64 m, .int .i64 d, .int .i64 h, .int .i64 mi, .int .i64 s] 35)) => (later_box hB hs p).2.2.2.1
  have c5 := fun p : Later (w.alloc (.cells #[.int .i64 y, .int .i64 m, .int .i64 d, .int .i64 h, .int .i64 mi, .int .i64 s] 35)) => (later_box hB hs p).2.2.2.2.1
  have c6 := fun p : Later (w.alloc (.cells #[.int .i64 y, .int .i64 m, .int .i64 d, .int .i64 h, .int .i64 mi, .int .i64 s] 35)) => (later_box hB hs p).2.2.2.2.2
  clear hB hs
  go_enter Tryz.func25, Tryz.ntmps25
  go_wp2_with (refine wp_region_later (by kernel_rfl) (by kernel_rfl) ?_)
  repeat (go_big_quiet_step (first | (go_at_call 38; refine later_of (month_any y m _ (by assumption) (by assumption)))))
  refine wpQuiet_nil ?_
  rintro _ ⟨p, rfl⟩
  clear c1 c2 c3 c4 c5 c6
  generalize hp : p.at' = W3
  have HP := Lib.hid hp
  clear hp
  go_wp2_with fail
  go_ret2
  exact ⟨rfl, HP.out ▸ (alloc_below w _).trans (p.kept.mono (by simp))⟩
end Go.Proofs.YtehlgnjbmdaakaaGreatDoor.ClkC

import Derived.Test.YtehlgnjbmdaakaaGreatDoorClkR1
import Derived.Test.YtehlgnjbmdaakaaGreatDoorClkR2
import Derived.Test.YtehlgnjbmdaakaaGreatDoorClkR3
namespace Go.Proofs.YtehlgnjbmdaakaaGreatDoor.ClkC
open Go.RowKit Go.My Clk

theorem refseconds_no (y m d h mi s : Int) (w : World) (hv : ¬ ValidT y m d h mi s) :
    Calls Tryz.prog 25 #[dateV y m d h mi s] w fun e w' => e = .returned (.tuple #[.int .i64 0, .bool false]) ∧ Below w.heap.size w w' := by
  have hc : (y < 1) ∨ (decide (y < 1) = false ∧ 9999 < y) ∨ (decide (y < 1) = false ∧ decide (9999 < y) = false ∧ m < 1) ∨ (decide (y < 1) = false ∧ decide (9999 < y) = false ∧ decide (m < 1) = false ∧ 12 < m) ∨ (decide (y < 1) = false ∧ decide (9999 < y) = false ∧ decide (m < 1) = false ∧ decide (12 < m) = false ∧ d < 1) ∨ (decide (y < 1) = false ∧ decide (9999 < y) = false ∧ decide (m < 1) = false ∧ decide (12 < m) = false ∧ decide (d < 1) = false ∧ mlen y m < d) ∨ (decide (y < 1) = false ∧ decide (9999 < y) = false ∧ decide (m < 1) = false ∧ decide (12 < m) = false ∧ decide (d < 1) = false ∧ decide (mlen y m < d) = false ∧ h < 0) ∨ (decide (y < 1) = false ∧ decide (9999 < y) = false ∧ decide (m < 1) = false ∧ decide (12 < m) = false ∧ decide (d < 1) = false ∧ decide (mlen y m < d) = false ∧ decide (h < 0) = false ∧ 23 < h) ∨ (decide (y < 1) = false ∧ decide (9999 < y) = false ∧ decide (m < 1) = false ∧ decide (12 < m) = false ∧ decide (d < 1) = false ∧ decide (mlen y m < d) = false ∧ decide (h < 0) = false ∧ decide (23 < h) = false ∧ mi < 0) ∨ (decide (y < 1) = false ∧ decide (9999 < y) = false ∧ decide (m < 1) = false ∧ decide (12 < m) = false ∧ decide (d < 1) = false ∧ decide (mlen y m < d) = false ∧ decide (h < 0) = false ∧ decide (23 < h) = false ∧ decide (mi < 0) = false ∧ 59 < mi) ∨ (decide (y < 1) = false ∧ decide (9999 < y) = false ∧ decide (m < 1) = false ∧ decide (12 < m) = false ∧ decide (d < 1) = false ∧ decide (mlen y m < d) = false ∧ decide (h < 0) = false ∧ decide (23 < h) = false ∧ decide (mi < 0) = false ∧ decide (59 < mi) = false ∧ s < 0) ∨ (decide (y < 1) = false ∧ decide (9999 < y) = false ∧ decide (m < 1) = false ∧ decide (12 < m) = false ∧ decide (d < 1) = false ∧ decide (mlen y m < d) = false ∧ decide (h < 0) = false ∧ decide (23 < h) = false ∧ decide (mi < 0) = false ∧ decide (59 < mi) = false ∧ decide (s < 0) = false ∧ 59 < s) := by
    by_cases q0 : y < 1
    · exact .inl q0
    by_cases q1 : 9999 < y
    · exact .inr (.inl ⟨decide_eq_false q0, q1⟩)
    by_cases q2 : m < 1
    · exact .inr (.inr (.inl ⟨decide_eq_false q0, decide_eq_false q1, q2⟩))
    by_cases q3 : 12 < m
    · exact .inr (.inr (.inr (.inl ⟨decide_eq_false q0, decide_eq_false q1, decide_eq_false q2, q3⟩)))
    by_cases q4 : d < 1
    · exact .inr (.inr (.inr (.inr (.inl ⟨decide_eq_false q0, decide_eq_false q1, decide_eq_false q2, decide_eq_false q3, q4⟩))))
    by_cases q5 : mlen y m < d
    · exact .inr (.inr (.inr (.inr (.inr (.inl ⟨decide_eq_false q0, decide_eq_false q1, decide_eq_false q2, decide_eq_false q3, decide_eq_false q4, q5⟩)))))
    by_cases q6 : h < 0
    · exact .inr (.inr (.inr (.inr (.inr (.inr (.inl ⟨decide_eq_false q0, decide_eq_false q1, decide_eq_false q2, decide_eq_false q3, decide_eq_false q4, decide_eq_false q5, q6⟩))))))
    by_cases q7 : 23 < h
    · exact .inr (.inr (.inr (.inr (.inr (.inr (.inr (.inl ⟨decide_eq_false q0, decide_eq_false q1, decide_eq_false q2, decide_eq_false q3, decide_eq_false q4, decide_eq_false q5, decide_eq_false q6, q7⟩)))))))
    by_cases q8 : mi < 0
    · exact .inr (.inr (.inr (.inr (.inr (.inr (.inr (.inr (.inl ⟨decide_eq_false q0, decide_eq_false q1, decide_eq_false q2, decide_eq_false q3, decide_eq_false q4, decide_eq_false q5, decide_eq_false q6, decide_eq_false q7, q8⟩))))))))
    by_cases q9 : 59 < mi
    · exact .inr (.inr (.inr (.inr (.inr (.inr (.inr (.inr (.inr (.inl ⟨decide_eq_false q0, decide_eq_false q1, decide_eq_false q2, decide_eq_false q3, decide_eq_false q4, decide_eq_false q5, decide_eq_false q6, decide_eq_false q7, decide_eq_false q8, q9⟩)))))))))
    by_cases q10 : s < 0
    · exact .inr (.inr (.inr (.inr (.inr (.inr (.inr (.inr (.inr (.inr (.inl ⟨decide_eq_false q0, decide_eq_false q1, decide_eq_false q2, decide_eq_false q3, decide_eq_false q4, decide_eq_false q5, decide_eq_false q6, decide_eq_false q7, decide_eq_false q8, decide_eq_false q9, q10⟩))))))))))
    by_cases q11 : 59 < s
    · exact .inr (.inr (.inr (.inr (.inr (.inr (.inr (.inr (.inr (.inr (.inr (⟨decide_eq_false q0, decide_eq_false q1, decide_eq_false q2, decide_eq_false q3, decide_eq_false q4, decide_eq_false q5, decide_eq_false q6, decide_eq_false q7, decide_eq_false q8, decide_eq_false q9, decide_eq_false q10, q11⟩)))))))))))
    exact absurd ⟨Int.not_lt.1 q0, Int.not_lt.1 q1, ⟨Int.not_lt.1 q2, Int.not_lt.1 q3, Int.not_lt.1 q4, Int.not_lt.1 q5⟩, Int.not_lt.1 q6, Int.not_lt.1 q7, Int.not_lt.1 q8, Int.not_lt.1 q9, Int.not_lt.1 q10, Int.not_lt.1 q11⟩ hv
  clear hv
  rcases hc with q0 | ⟨q0, q1⟩ | ⟨q0, q1, q2⟩ | ⟨q0, q1, q2, q3⟩ | ⟨q0, q1, q2, q3, q4⟩ | ⟨q0, q1, q2, q3, q4, q5⟩ | ⟨q0, q1, q2, q3, q4, q5, q6⟩ | ⟨q0, q1, q2, q3, q4, q5, q6, q7⟩ | ⟨q0, q1, q2, q3, q4, q5, q6, q7, q8⟩ | ⟨q0, q1, q2, q3, q4, q5, q6, q7, q8, q9⟩ | ⟨q0, q1, q2, q3, q4, q5, q6, q7, q8, q9, q10⟩ | ⟨q0, q1, q2, q3, q4, q5, q6, q7, q8, q9, q10, q11⟩
  · exact refsec_0 y m d h mi s w q0
  · exact refsec_1 y m d h mi s w q0 q1
  · exact refsec_2 y m d h mi s w q0 q1 q2
  · exact refsec_3 y m d h mi s w q0 q1 q2 q3
  · exact refsec_4 y m d h mi s w q0 q1 q2 q3 q4
  · exact refsec_5 y m d h mi s w q0 q1 q2 q3 q4 q5
  · exact refsec_6 y m d h mi s w q0 q1 q2 q3 q4 q5 q6
  · exact refsec_7 y m d h mi s w q0 q1 q2 q3 q4 q5 q6 q7
  · exact refsec_8 y m d h mi s w q0 q1 q2 q3 q4 q5 q6 q7 q8
  · exact refsec_9 y m d h mi s w q0 q1 q2 q3 q4 q5 q6 q7 q8 q9
  · exact refsec_10 y m d h mi s w q0 q1 q2 q3 q4 q5 q6 q7 q8 q9 q10
  · exact refsec_11 y m d h mi s w q0 q1 q2 q3 q4 q5 q6 q7 q8 q9 q10 q11

theorem refdays_as {y m d n : Int} (h : daysF y m d = n) (w : World) :
    Calls Tryz.prog 39 #[.int .i64 y, .int .i64 m, .int .i64 d] w fun e w' => e = .returned (.int .i64 n) ∧ Below w.heap.size w w' := by
  subst h; exact refdays_any y m d w

set_option maxRecDepth 100000 in
set_option maxHeartbeats 4000000 in
theorem refseconds_yes (y m d h mi s N : Int) (w : World) (hN : Hid (daysF y m d = N)) (hN1 : -800000 ≤ N) (hN2 : N ≤ 3000000) (k0 : decide (y < 1) = false) (k1 : decide (9999 < y) = false) (k2 : decide (m < 1) = false) (k3 : decide (12 < m) = false) (k4 : decide (d < 1) = false) (k5 : decide (mlen y m < d) = false) (k6 : decide (h < 0) = false) (k7 : decide (23 < h) = false) (k8 : decide (mi < 0) = false) (k9 : decide (59 < mi) = false) (k10 : decide (s < 0) = false) (k11 : decide (59 < s) = false) :
    Calls Tryz.prog 25 #[dateV y m d h mi s] w fun e w' => e = .returned (.tuple #[.int .i64 (N * 86400 + h * 3600 + mi * 60 + s), .bool true]) ∧ Below w.heap.size w w' := by
  have hm1 : 1 ≤ m := by simpa using k2
  have hm2 : m ≤ 12 := by simpa using k3
  have hh1 : 0 ≤ h := by simpa using k6
  have hh2 : h ≤ 23 := by simpa using k7
  have hi1 : 0 ≤ mi := by simpa using k8
  have hi2 : mi ≤ 59 := by simpa using k9
  have hs1 : 0 ≤ s := by simpa using k10
  have hs2 : s ≤ 59 := by simpa using k11
  unfold dateV
  have hB : Below (w.heap.size + 1) (w.alloc (.cells #[.int .i64 y, .int .i64 m, .int .i64 d, .int .i64 h, .int .i64 mi, .int .i64 s] 35)) (w.alloc (.cells #[.int .i64 y, .int .i64 m, .int .i64 d, .int .i64 h, .int .i64 mi, .int .i64 s] 35)) := Below.refl _ _
  have hs : w.heap.size + 1 ≤ (w.alloc (.cells #[.int .i64 y, .int .i64 m, .int .i64 d, .int .i64 h, .int .i64 mi, .int .i64 s] 35)).heap.size := by simp
  have c1 := fun p : Later (w.alloc (.cells #[.int .i64 y, .int .i64 m, .int .i64 d, .int .i64 h, .int .i64 mi, .int .i64 s] 35)) => (later_box hB hs p).1
  have c2 := fun p : Later (w.alloc (.cells #[.int .i64 y, .int .i64 m, .int .i64 d, .int .i64 h, .int .i64 mi, .int .i64 s] 35)) => (later_box hB hs p).2.1
  have c3 := fun p : Later (w.alloc (.cells #[.int .i64 y, .int .i64 m, .int .i64 d, .int .i64 h, .int .i64 mi, .int .i64 s] 35)) => (later_box hB hs p).2.2.1
  have c4 := fun p : Later (w.alloc (.cells #[.int .i64 y, .int .i64 m, .int .i64 d, .int .i64 h, .int .i64 mi, .int .i64 s] 35)) => (later_box hB hs p).2.2.2.1
  have c5 := fun p : Later (w.alloc (.cells #[.int .i64 y, .int .i64 m, .int .i64 d, .int .i64 h, .int .i64 mi, .int .i64 s] 35)) => (later_box hB hs p).2.2.2.2.1
  have c6 := fun p : Later (w.alloc (.cells #[.int .i64 y, .int .i64 m, .int .i64 d, .int .i64 h, .int .i64 mi, .int .i64 s] 35)) => (later_box hB hs p).2.2.2.2.2
  clear hB hs
  go_enter Tryz.func25, Tryz.ntmps25
  go_wp2_with (refine wp_region_later (by kernel_rfl) (by kernel_rfl) ?_)
  repeat (go_big_quiet_step (first | (go_at_call 38; refine later_of (month_any y m _ hm1 hm2))))
  refine wpQuiet_nil ?_
  rintro _ ⟨p, rfl⟩
  have hB2 : Below (w.heap.size + 1) (w.alloc (.cells #[.int .i64 y, .int .i64 m, .int .i64 d, .int .i64 h, .int .i64 mi, .int .i64 s] 35)) p.at' := (Below.refl _ _).trans (p.kept.mono (by simp))
  have hs2 : w.heap.size + 1 ≤ p.at'.heap.size := Nat.le_trans (by simp) p.kept.size
  clear c1 c2 c3 c4 c5 c6
  generalize p.at' = W2 at *
  have c1 := fun p : Later W2 => (later_box hB2 hs2 p).1
  have c2 := fun p : Later W2 => (later_box hB2 hs2 p).2.1
  have c3 := fun p : Later W2 => (later_box hB2 hs2 p).2.2.1
  have c4 := fun p : Later W2 => (later_box hB2 hs2 p).2.2.2.1
  have c5 := fun p : Later W2 => (later_box hB2 hs2 p).2.2.2.2.1
  have c6 := fun p : Later W2 => (later_box hB2 hs2 p).2.2.2.2.2
  have HB := Lib.hid hB2
  have HS := Lib.hid hs2
  clear hB2 hs2
  go_wp2_with (refine wp_region_later (by kernel_rfl) (by kernel_rfl) ?_)
  repeat (go_big_quiet_step (first | (go_at_call 39; refine later_of (refdays_as hN.out _))))
  refine wpQuiet_nil ?_
  rintro _ ⟨q, rfl⟩
  clear c1 c2 c3 c4 c5 c6
  have HP := Lib.hid ((alloc_below w _).trans ((HB.out.trans (q.kept.mono HS.out)).mono (Nat.le_succ _)))
  go_wp2_with fail
  go_ret2
  exact ⟨ret_yes (by omega) rfl, HP.out⟩

theorem refseconds_any (y m d h mi s : Int) (w : World) :
    Calls Tryz.prog 25 #[dateV y m d h mi s] w fun e w' => e = .returned (.tuple #[.int .i64 (secV y m d h mi s), .bool (secB y m d h mi s)]) ∧ Below w.heap.size w w' := by
  by_cases hv : ValidT y m d h mi s
  · rw [show secV y m d h mi s = _ from if_pos hv, show secB y m d h mi s = true from decide_eq_true hv]
    obtain ⟨hy, hy2, hd, h1, h2, h3, h4, h5, h6⟩ := hv
    obtain ⟨b1, b2⟩ := days_small hy hy2 hd
    obtain ⟨v1, v2, v3, v4⟩ := hd
    have hm := (mlen_pos y m).2
    have hdf : daysF y m d = days y m d := if_neg (by omega)
    exact refseconds_yes y m d h mi s _ w (Lib.hid hdf) b1 b2 (decide_eq_false (by omega)) (decide_eq_false (by omega)) (decide_eq_false (by omega)) (decide_eq_false (by omega)) (decide_eq_false (by omega)) (decide_eq_false (by omega)) (decide_eq_false (by omega)) (decide_eq_false (by omega)) (decide_eq_false (by omega)) (decide_eq_false (by omega)) (decide_eq_false (by omega)) (decide_eq_false (by omega))
  · rw [show secV y m d h mi s = 0 from if_neg hv, show secB y m d h mi s = false from decide_eq_false hv]
    exact refseconds_no y m d h mi s w hv
end Go.Proofs.YtehlgnjbmdaakaaGreatDoor.ClkC

import Derived.Test.YtehlgnjbmdaakaaDoorClkA
namespace Go.Proofs.YtehlgnjbmdaakaaDoor.ClkC
open Go.RowKit Go.My Clk

theorem tfloor (a b : Int) (hb : 0 < b) (ha : -2000000000000 ≤ a) (ha2 : a ≤ 2000000000000) : -2000000000000 ≤ Int.tdiv a b ∧ Int.tdiv a b ≤ 2000000000000 ∧ a / b = (if Int.tmod a b < 0 then Int.tdiv a b - 1 else Int.tdiv a b) := by
  by_cases h : 0 ≤ a
  · rw [Int.tdiv_eq_ediv_of_nonneg h, Int.tmod_eq_emod_of_nonneg h]
    have h1 := Int.emod_nonneg a (show b ≠ 0 by omega)
    have h2 := Int.ediv_nonneg h (Int.le_of_lt hb)
    have h3 := Int.ediv_le_self b h
    rw [if_neg (by omega)]
    omega
  · obtain ⟨c, rfl⟩ : ∃ c, a = -c := ⟨-a, by omega⟩
    have hc : 0 ≤ c := by omega
    rw [Int.neg_tdiv, Int.neg_tmod, Int.tdiv_eq_ediv_of_nonneg hc, Int.tmod_eq_emod_of_nonneg hc]
    have h0 := Int.mul_ediv_add_emod c b
    have h1 := Int.emod_nonneg c (show b ≠ 0 by omega)
    have h2 := Int.ediv_nonneg hc (Int.le_of_lt hb)
    have h3 := Int.ediv_le_self b hc
    have h4 := Int.emod_lt_of_pos c hb
    refine ⟨by omega, by omega, ?_⟩
    generalize c / b = q at *
    generalize c % b = r at *
    by_cases hr : r = 0
    · rw [if_neg (by omega), show -c = b * (-q) by rw [Int.mul_neg]; omega, Int.mul_ediv_cancel_left _ (by omega)]
    · rw [if_pos (by omega), show -c = (b - r) + b * (-q - 1) by rw [Int.mul_sub, Int.mul_neg]; omega, Int.add_mul_ediv_left _ _ (by omega), Int.ediv_eq_zero_of_lt (by omega) (by omega)]
      omega
theorem floor_any (a b : Int) (w : World) (hb : 0 < b) (ha : -2000000000000 ≤ a) (ha2 : a ≤ 2000000000000) :
    Calls Tryd.prog 35 #[.int .i64 a, .int .i64 b] w fun e w' => e = .returned (.int .i64 (a / b)) ∧ w = w' := by
  obtain ⟨h1, h2, h3⟩ := tfloor a b hb ha ha2
  rw [h3]
  clear h3
  obtain ⟨q, hq⟩ : ∃ q, q = Int.tdiv a b := ⟨_, rfl⟩
  obtain ⟨t, ht⟩ : ∃ t, t = Int.tmod a b := ⟨_, rfl⟩
  rw [← hq] at h1 h2 ⊢
  rw [← ht]
  have hq' := hq.symm
  have ht' := ht.symm
  clear hq ht
  by_cases hlt : t < 0
  · rw [if_pos hlt]
    go_enter Tryd.func35, Tryd.ntmps35
    go_wp2_with fail
    go_ret
    exact ⟨rfl, rfl⟩
  · rw [if_neg hlt]
    go_enter Tryd.func35, Tryd.ntmps35
    go_wp2_with fail
    go_ret
    exact ⟨rfl, rfl⟩
theorem ahead_any (y : Int) (w : World) (hy : -200000 ≤ y) (hy2 : y ≤ 200000) :
    Calls Tryd.prog 34 #[.int .i64 y] w fun e w' => e = .returned (.int .i64 (Clk.ahead y)) ∧ w = w' := by
  go_enter Tryd.func34, Tryd.ntmps34
  go_wp2_with fail
  refine (floor_any _ 4 w (by omega) (by omega) (by omega)).mono ?_
  rintro e w' ⟨rfl, rfl⟩
  go_wp2_with fail
  refine (floor_any _ 100 w (by omega) (by omega) (by omega)).mono ?_
  rintro e w' ⟨rfl, rfl⟩
  go_wp2_with fail
  refine (floor_any _ 400 w (by omega) (by omega) (by omega)).mono ?_
  rintro e w' ⟨rfl, rfl⟩
  go_wp2_with fail
  go_ret
  exact ⟨ret_int (by unfold Clk.ahead; omega), rfl⟩
theorem days2_any (y : Int) (w : World) (hy : -200000 ≤ y) (hy2 : y ≤ 200000) :
    Calls Tryd.prog 36 #[.int .i64 y] w fun e w' => e = .returned (.int .i64 (d2 y)) ∧ w = w' := by
  have h1 : -100000000 ≤ Clk.ahead y ∧ Clk.ahead y ≤ 100000000 := by unfold Clk.ahead; omega
  obtain ⟨h1, h2⟩ := h1
  go_enter Tryd.func36, Tryd.ntmps36
  go_wp2_with fail
  refine (ahead_any y w hy hy2).mono ?_
  rintro e w' ⟨rfl, rfl⟩
  go_wp2_with fail
  refine (ahead_any 1970 w (by omega) (by omega)).mono ?_
  rintro e w' ⟨rfl, rfl⟩
  rw [ahead_1970]
  go_wp2_with fail
  go_ret
  exact ⟨ret_int (by unfold d2; omega), rfl⟩
theorem ret_bool {a b : Bool} (h : a = b) : Ending.returned (.bool a) = .returned (.bool b) := by rw [h]
theorem tmod0 (y b : Int) : Int.tmod y b = 0 ↔ y % b = 0 := by
  rw [← Int.dvd_iff_tmod_eq_zero, ← Int.dvd_iff_emod_eq_zero]
theorem leap_any (y : Int) (w : World) :
    Calls Tryd.prog 47 #[.int .i64 y] w fun e w' => e = .returned (.bool (decide (Leap y))) ∧ w = w' := by
  obtain ⟨a, ha⟩ : ∃ q, Int.tmod y 4 = q := ⟨_, rfl⟩
  obtain ⟨b, hb⟩ : ∃ q, Int.tmod y 100 = q := ⟨_, rfl⟩
  obtain ⟨c, hc⟩ : ∃ q, Int.tmod y 400 = q := ⟨_, rfl⟩
  have h4 := tmod0 y 4
  have h100 := tmod0 y 100
  have h400 := tmod0 y 400
  rw [ha] at h4
  rw [hb] at h100
  rw [hc] at h400
  have H4 := Lib.hid h4
  have H100 := Lib.hid h100
  have H400 := Lib.hid h400
  clear h4 h100 h400
  by_cases a0 : a = 0
  · by_cases b0 : b = 0
    · by_cases c0 : c = 0
      · go_enter Tryd.func47, Tryd.ntmps47
        go_wp2_with fail
        go_ret
        exact ⟨ret_bool (by rw [decide_eq_true (show Leap y from ⟨H4.out.1 a0, .inr (H400.out.1 c0)⟩)]), rfl⟩
      · go_enter Tryd.func47, Tryd.ntmps47
        go_wp2_with fail
        go_ret
        exact ⟨ret_bool (by rw [decide_eq_false (show ¬ Leap y from fun h => h.2.elim (fun h => h (H100.out.1 b0)) (fun h => c0 (H400.out.2 h)))]; simpa using c0), rfl⟩
    · go_enter Tryd.func47, Tryd.ntmps47
      go_wp2_with fail
      go_ret
      exact ⟨ret_bool (by rw [decide_eq_true (show Leap y from ⟨H4.out.1 a0, .inl fun h => b0 (H100.out.2 h)⟩)]), rfl⟩
  · go_enter Tryd.func47, Tryd.ntmps47
    go_wp2_with fail
    go_ret
    exact ⟨ret_bool (by rw [decide_eq_false (show ¬ Leap y from fun h => a0 (H4.out.2 h.1))]), rfl⟩
set_option maxHeartbeats 4000000 in
theorem month_any (y m : Int) (w : World) (hm : 1 ≤ m) (hm2 : m ≤ 12) :
    Calls Tryd.prog 29 #[.int .i64 y, .int .i64 m] w fun e w' => e = .returned (.int .i64 (mlen y m)) ∧ Below w.heap.size w w' := by
  have hc : m = 1 ∨ m = 2 ∨ m = 3 ∨ m = 4 ∨ m = 5 ∨ m = 6 ∨ m = 7 ∨ m = 8 ∨ m = 9 ∨ m = 10 ∨ m = 11 ∨ m = 12 := by omega
  clear hm hm2
  rcases hc with rfl | rfl | rfl | rfl | rfl | rfl | rfl | rfl | rfl | rfl | rfl | rfl
  · go_enter Tryd.func29, Tryd.ntmps29
    go_wp2_with fail
    go_ret
    exact ⟨ret_int (by unfold mlen; simp), alloc_below _ _⟩
  · by_cases hl : Leap y
    · go_enter Tryd.func29, Tryd.ntmps29
      go_wp2_with fail
      refine (leap_any y _).mono ?_
      rintro e w' ⟨rfl, rfl⟩
      rw [decide_eq_true hl]
      have HL := Lib.hid hl
      clear hl
      go_wp2_with fail
      go_ret
      exact ⟨ret_int (by unfold mlen lp; rw [if_pos HL.out]; rfl), alloc_below _ _⟩
    · go_enter Tryd.func29, Tryd.ntmps29
      go_wp2_with fail
      refine (leap_any y _).mono ?_
      rintro e w' ⟨rfl, rfl⟩
      rw [decide_eq_false hl]
      have HL := Lib.hid hl
      clear hl
      go_wp2_with fail
      go_ret
      exact ⟨ret_int (by unfold mlen lp; rw [if_neg HL.out]; rfl), alloc_below _ _⟩
  · go_enter Tryd.func29, Tryd.ntmps29
    go_wp2_with fail
    go_ret
    exact ⟨ret_int (by unfold mlen; simp), alloc_below _ _⟩
  · go_enter Tryd.func29, Tryd.ntmps29
    go_wp2_with fail
    go_ret
    exact ⟨ret_int (by unfold mlen; simp), alloc_below _ _⟩
  · go_enter Tryd.func29, Tryd.ntmps29
    go_wp2_with fail
    go_ret
    exact ⟨ret_int (by unfold mlen; simp), alloc_below _ _⟩
  · go_enter Tryd.func29, Tryd.ntmps29
    go_wp2_with fail
    go_ret
    exact ⟨ret_int (by unfold mlen; simp), alloc_below _ _⟩
  · go_enter Tryd.func29, Tryd.ntmps29
    go_wp2_with fail
    go_ret
    exact ⟨ret_int (by unfold mlen; simp), alloc_below _ _⟩
  · go_enter Tryd.func29, Tryd.ntmps29
    go_wp2_with fail
    go_ret
    exact ⟨ret_int (by unfold mlen; simp), alloc_below _ _⟩
  · go_enter Tryd.func29, Tryd.ntmps29
    go_wp2_with fail
    go_ret
    exact ⟨ret_int (by unfold mlen; simp), alloc_below _ _⟩
  · go_enter Tryd.func29, Tryd.ntmps29
    go_wp2_with fail
    go_ret
    exact ⟨ret_int (by unfold mlen; simp), alloc_below _ _⟩
  · go_enter Tryd.func29, Tryd.ntmps29
    go_wp2_with fail
    go_ret
    exact ⟨ret_int (by unfold mlen; simp), alloc_below _ _⟩
  · go_enter Tryd.func29, Tryd.ntmps29
    go_wp2_with fail
    go_ret
    exact ⟨ret_int (by unfold mlen; simp), alloc_below _ _⟩

theorem refdays_out (y m d : Int) (w : World) (h : y < -100000 ∨ 100000 < y ∨ m < 1 ∨ 12 < m ∨ d < 1 ∨ 31 < d) :
    Calls Tryd.prog 14 #[.int .i64 y, .int .i64 m, .int .i64 d] w fun e w' => e = .returned (.int .i64 0) ∧ w = w' := by
  by_cases h1 : y < -100000
  · go_enter Tryd.func14, Tryd.ntmps14
    go_wp2_with fail
    go_ret
    exact ⟨rfl, rfl⟩
  by_cases h2 : 100000 < y
  · go_enter Tryd.func14, Tryd.ntmps14
    go_wp2_with fail
    go_ret
    exact ⟨rfl, rfl⟩
  by_cases h3 : m < 1
  · go_enter Tryd.func14, Tryd.ntmps14
    go_wp2_with fail
    go_ret
    exact ⟨rfl, rfl⟩
  by_cases h4 : 12 < m
  · go_enter Tryd.func14, Tryd.ntmps14
    go_wp2_with fail
    go_ret
    exact ⟨rfl, rfl⟩
  by_cases h5 : d < 1
  · go_enter Tryd.func14, Tryd.ntmps14
    go_wp2_with fail
    go_ret
    exact ⟨rfl, rfl⟩
  by_cases h6 : 31 < d
  · go_enter Tryd.func14, Tryd.ntmps14
    go_wp2_with fail
    go_ret
    exact ⟨rfl, rfl⟩
  omega
set_option maxRecDepth 100000 in
theorem refdays_in (y m d : Int) (w : World) (hy : -100000 ≤ y) (hy2 : y ≤ 100000) (hm : 1 ≤ m) (hm2 : m ≤ 12) (hd : 1 ≤ d) (hd2 : d ≤ 31) :
    Calls Tryd.prog 14 #[.int .i64 y, .int .i64 m, .int .i64 d] w fun e w' => e = .returned (.int .i64 (days y m d)) ∧ Below w.heap.size w w' := by
  have h1 : -100000000 ≤ Clk.ahead y ∧ Clk.ahead y ≤ 100000000 := by unfold Clk.ahead; omega
  obtain ⟨h1, h2⟩ := h1
  have HR := Lib.hid (show Clk.ahead y - 719528 + cum y m + d - 1 = days y m d by unfold days d2; omega)
  go_enter Tryd.func14, Tryd.ntmps14
  go_wp2_with fail
  refine (ahead_any y w (by omega) (by omega)).mono ?_
  rintro e w' ⟨rfl, rfl⟩
  go_wp2_with fail
  refine (ahead_any 1970 w (by omega) (by omega)).mono ?_
  rintro e w' ⟨rfl, rfl⟩
  rw [ahead_1970]
  generalize Clk.ahead y = A at *
  go_wp2_with fail
  have HC := Lib.hid (cum_one y)
  go_loopw [7, 8] (fun n i w' => ∃ k : Int, 1 ≤ k ∧ k ≤ m ∧ i = .int .i64 k ∧ n = .int .i64 (A - 719528 + cum y k) ∧ 0 ≤ cum y k ∧ cum y k ≤ 31 * k ∧ Below w.heap.size w w') (fun _ i _ => (m - intOf i).toNat)
  case atStart => exact ⟨1, by omega, by omega, rfl, by rw [HC.out]; simp, by rw [HC.out]; omega, by rw [HC.out]; omega, Below.refl _ _⟩
  case round =>
    obtain ⟨k, hk1, hk2, rfl, rfl, hc1, hc2, hb⟩ := hrel
    by_cases hlt : k < m
    · have hp := mlen_pos y k
      have HN := Lib.hid (cum_next y k hk1 (by omega))
      go_wp2_with fail
      refine (month_any y k _ hk1 (by omega)).mono ?_
      rintro e w2 ⟨rfl, hb2⟩
      obtain ⟨hp1, hp2⟩ := hp
      go_wp2_with fail
      go_roundw
      case rel => exact ⟨k + 1, by omega, by omega, by go_num, by rw [HN.out]; go_num, by rw [HN.out]; omega, by rw [HN.out]; omega, hb.trans (hb2.mono hb.size)⟩
      case measure => simp [intOf]; omega
    · obtain rfl : k = m := by omega
      go_wp2_with fail
      go_ret
      exact ⟨ret_int (by rw [← HR.out]), hb⟩
theorem refdays_any (y m d : Int) (w : World) :
    Calls Tryd.prog 14 #[.int .i64 y, .int .i64 m, .int .i64 d] w fun e w' => e = .returned (.int .i64 (daysF y m d)) ∧ Below w.heap.size w w' := by
  unfold daysF
  by_cases h : y < -100000 ∨ 100000 < y ∨ m < 1 ∨ 12 < m ∨ d < 1 ∨ 31 < d
  · rw [if_pos h]; exact (refdays_out y m d w h).mono fun e w' ⟨h1, h2⟩ => ⟨h1, h2 ▸ Below.refl _ _⟩
  · rw [if_neg h]; exact refdays_in y m d w (by omega) (by omega) (by omega) (by omega) (by omega) (by omega)
end Go.Proofs.YtehlgnjbmdaakaaDoor.ClkC

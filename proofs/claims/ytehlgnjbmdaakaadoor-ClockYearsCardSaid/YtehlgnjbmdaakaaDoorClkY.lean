import Derived.Test.YtehlgnjbmdaakaaDoorClkH
namespace Go.Proofs.YtehlgnjbmdaakaaDoor.ClkC
open Go.RowKit Go.My Flt NumMath Txt Clk

theorem days_as {y m d n : Int} (h : daysF y m d = n) (w : World) :
    Calls Tryd.prog 13 #[.int .i64 y, .int .i64 m, .int .i64 d] w fun e w' => e = .returned (.int .i64 n) ∧ w = w' := by
  subst h; exact days_any y m d w
theorem daysF_in {y m d : Int} (h1 : -100000 ≤ y) (h2 : y ≤ 100000) (h3 : 1 ≤ m) (h4 : m ≤ 12) (h5 : 1 ≤ d) (h6 : d ≤ 31) : daysF y m d = d2 y + cum y m + (d - 1) := by
  unfold daysF; rw [if_neg (by omega)]; rfl
theorem years_facts (n q : Int) (hn1 : -90000 ≤ n) (hn2 : n ≤ 90000) (hq1 : 0 ≤ q) (hq2 : q ≤ 11) : ∃ B C M : Int, mlen n (1 + q) = M ∧ 28 ≤ M ∧ M ≤ 31 ∧ -100000000 ≤ B ∧ B ≤ 100000000 ∧ -100000000 ≤ C ∧ C ≤ 100000000 ∧
    daysF (n + 1) 1 1 = C + (365 + lp n) ∧ daysF (n + 400) (1 + q) 5 = B + 146101 ∧ daysF n (1 + q) 5 = B + 4 ∧ daysF n 1 1 = C ∧ daysF n (1 + q) 1 = B ∧ daysF n (1 + q) 31 = B + 30 ∧
    (1 + q < 12 → daysF n (1 + q + 1) 1 = B + M) ∧ (1 + q = 12 → C + (365 + lp n) = B + M) := by
  have hm := mlen_pos n (1 + q)
  have hl := lp_01 n
  have e400 : lp (n + 400) = lp n := by rw [lp_eq, lp_eq]; omega
  have d400 : d2 (n + 400) = d2 n + 146097 := by unfold d2 Clk.ahead; omega
  have c400 : cum (n + 400) (1 + q) = cum n (1 + q) := by unfold cum; rw [e400]
  have hnx := cum_next n (1 + q) (by omega) (by omega)
  have hb : -50000000 ≤ d2 n ∧ d2 n ≤ 50000000 := by unfold d2 Clk.ahead; omega
  have hc1 := cum_mono n (m := 1) (n := 1 + q) (by omega) (by omega) (by omega)
  have hc2 := cum_mono n (m := 1 + q) (n := 13) (by omega) (by omega) (by omega)
  rw [cum_one] at hc1
  rw [cum_13] at hc2
  have hy := d2_next n
  refine ⟨d2 n + cum n (1 + q), d2 n, mlen n (1 + q), rfl, hm.1, hm.2, by omega, by omega, by omega, by omega, ?_, ?_, ?_, ?_, ?_, ?_, ?_, ?_⟩
  · rw [daysF_in (by omega) (by omega) (by omega) (by omega) (by omega) (by omega), cum_one]; omega
  · rw [daysF_in (by omega) (by omega) (by omega) (by omega) (by omega) (by omega), d400, c400]; omega
  · rw [daysF_in (by omega) (by omega) (by omega) (by omega) (by omega) (by omega)]; omega
  · rw [daysF_in (by omega) (by omega) (by omega) (by omega) (by omega) (by omega), cum_one]; omega
  · rw [daysF_in (by omega) (by omega) (by omega) (by omega) (by omega) (by omega)]; omega
  · rw [daysF_in (by omega) (by omega) (by omega) (by omega) (by omega) (by omega)]; omega
  · intro h
    rw [daysF_in (by omega) (by omega) (by omega) (by omega) (by omega) (by omega), hnx]; omega
  · intro h
    rw [show 1 + q + 1 = 13 by omega, cum_13] at hnx
    omega

set_option maxRecDepth 100000 in
set_option maxHeartbeats 1000000 in
theorem years_0 (y m n q : Int) (w : World) (hP : Hid (Pow w)) (hY : Int.tmod (IntKind.u64.wrap y) 180001 = n + 90000) (hM : Int.tmod (IntKind.u64.wrap m) 12 = q) (hn1 : -90000 ≤ n) (hn2 : n ≤ 90000) (hq1 : 0 ≤ q) (hq2 : q ≤ 11)
    (ha : Int.tmod n 4 = 0) (hb : Int.tmod n 100 = 0) (hc : Int.tmod n 400 = 0) (hl : lp n = 1) :
    Calls Tryd.prog 8 #[.int .i64 y, .int .i64 m] w fun e w' => e = .returned (.bool true) ∧ Below w.heap.size w w' := by
  have HPW := hP
  clear hP
  obtain ⟨B, C, M, f0, f1, f2, f3, f4, f5, f6, h0, h1, h2, h3, h4, h5, h6, h7⟩ := years_facts n q hn1 hn2 hq1 hq2
  rw [hl] at h0 h7
  have H0 := Lib.hid h0
  have H1 := Lib.hid h1
  have H2 := Lib.hid h2
  have H3 := Lib.hid h3
  have H4 := Lib.hid h4
  have H5 := Lib.hid h5
  have F3 := Lib.hid h6
  have F4 := Lib.hid h7
  clear h0 h1 h2 h3 h4 h5 h6 h7 hl
  go_enter Tryd.func8, Tryd.ntmps8
  go_wp2_with fail
  refine (days_as H0.out w).mono ?_
  rintro e w' ⟨rfl, rfl⟩
  by_cases hk : 1 + q < 12
  · have HN := Lib.hid (F3.out hk)
    go_wp2_with fail
    refine (days_as HN.out w).mono ?_
    rintro e w' ⟨rfl, rfl⟩
    go_wp2_with fail
    refine (told_any w HPW.out).mono ?_
    rintro e w1 ⟨rfl, b1⟩
    go_wp2_with fail
    refine (days_as H1.out w1).mono ?_
    rintro e w' ⟨rfl, rfl⟩
    go_wp2_with fail
    refine (days_as H2.out w1).mono ?_
    rintro e w' ⟨rfl, rfl⟩
    go_wp2_with fail
    refine (days_as H0.out w1).mono ?_
    rintro e w' ⟨rfl, rfl⟩
    go_wp2_with fail
    refine (days_as H3.out w1).mono ?_
    rintro e w' ⟨rfl, rfl⟩
    go_wp2_with fail
    refine (days_as H4.out w1).mono ?_
    rintro e w' ⟨rfl, rfl⟩
    go_wp2_with fail
    refine (month_any n (1 + q) w1 (by omega) (by omega)).mono ?_
    rintro e w2 ⟨rfl, b2⟩
    go_wp2_with fail
    refine (days_as H5.out w2).mono ?_
    rintro e w' ⟨rfl, rfl⟩
    go_wp2_with fail
    refine (days_as H4.out w2).mono ?_
    rintro e w' ⟨rfl, rfl⟩
    go_wp2_with fail
    go_ret
    exact ⟨ret_bool (by rw [show B + 30 - B = 30 by omega]; rfl), b1.trans (b2.mono b1.size)⟩
  have HE := Lib.hid (F4.out (by omega))
  have hE := HE.out
  go_wp2_with fail
  go_wp2_with fail
  refine (told_any w HPW.out).mono ?_
  rintro e w1 ⟨rfl, b1⟩
  go_wp2_with fail
  refine (days_as H1.out w1).mono ?_
  rintro e w' ⟨rfl, rfl⟩
  go_wp2_with fail
  refine (days_as H2.out w1).mono ?_
  rintro e w' ⟨rfl, rfl⟩
  go_wp2_with fail
  refine (days_as H0.out w1).mono ?_
  rintro e w' ⟨rfl, rfl⟩
  go_wp2_with fail
  refine (days_as H3.out w1).mono ?_
  rintro e w' ⟨rfl, rfl⟩
  go_wp2_with fail
  refine (days_as H4.out w1).mono ?_
  rintro e w' ⟨rfl, rfl⟩
  go_wp2_with fail
  refine (month_any n (1 + q) w1 (by omega) (by omega)).mono ?_
  rintro e w2 ⟨rfl, b2⟩
  go_wp2_with fail
  refine (days_as H5.out w2).mono ?_
  rintro e w' ⟨rfl, rfl⟩
  go_wp2_with fail
  refine (days_as H4.out w2).mono ?_
  rintro e w' ⟨rfl, rfl⟩
  go_wp2_with fail
  go_ret
  exact ⟨ret_bool (by rw [show B + 30 - B = 30 by omega]; rfl), b1.trans (b2.mono b1.size)⟩
set_option maxRecDepth 100000 in
set_option maxHeartbeats 1000000 in
theorem years_1 (y m n q : Int) (w : World) (hP : Hid (Pow w)) (hY : Int.tmod (IntKind.u64.wrap y) 180001 = n + 90000) (hM : Int.tmod (IntKind.u64.wrap m) 12 = q) (hn1 : -90000 ≤ n) (hn2 : n ≤ 90000) (hq1 : 0 ≤ q) (hq2 : q ≤ 11)
    (ha : Int.tmod n 4 = 0) (hb : Int.tmod n 100 = 0) (hc : (Int.tmod n 400 == 0) = false) (hl : lp n = 0) :
    Calls Tryd.prog 8 #[.int .i64 y, .int .i64 m] w fun e w' => e = .returned (.bool true) ∧ Below w.heap.size w w' := by
  have HPW := hP
  clear hP
  obtain ⟨B, C, M, f0, f1, f2, f3, f4, f5, f6, h0, h1, h2, h3, h4, h5, h6, h7⟩ := years_facts n q hn1 hn2 hq1 hq2
  rw [hl] at h0 h7
  have H0 := Lib.hid h0
  have H1 := Lib.hid h1
  have H2 := Lib.hid h2
  have H3 := Lib.hid h3
  have H4 := Lib.hid h4
  have H5 := Lib.hid h5
  have F3 := Lib.hid h6
  have F4 := Lib.hid h7
  clear h0 h1 h2 h3 h4 h5 h6 h7 hl
  go_enter Tryd.func8, Tryd.ntmps8
  go_wp2_with fail
  refine (days_as H0.out w).mono ?_
  rintro e w' ⟨rfl, rfl⟩
  by_cases hk : 1 + q < 12
  · have HN := Lib.hid (F3.out hk)
    go_wp2_with fail
    refine (days_as HN.out w).mono ?_
    rintro e w' ⟨rfl, rfl⟩
    go_wp2_with fail
    refine (told_any w HPW.out).mono ?_
    rintro e w1 ⟨rfl, b1⟩
    go_wp2_with fail
    refine (days_as H1.out w1).mono ?_
    rintro e w' ⟨rfl, rfl⟩
    go_wp2_with fail
    refine (days_as H2.out w1).mono ?_
    rintro e w' ⟨rfl, rfl⟩
    go_wp2_with fail
    refine (days_as H0.out w1).mono ?_
    rintro e w' ⟨rfl, rfl⟩
    go_wp2_with fail
    refine (days_as H3.out w1).mono ?_
    rintro e w' ⟨rfl, rfl⟩
    go_wp2_with fail
    refine (days_as H4.out w1).mono ?_
    rintro e w' ⟨rfl, rfl⟩
    go_wp2_with fail
    refine (month_any n (1 + q) w1 (by omega) (by omega)).mono ?_
    rintro e w2 ⟨rfl, b2⟩
    go_wp2_with fail
    refine (days_as H5.out w2).mono ?_
    rintro e w' ⟨rfl, rfl⟩
    go_wp2_with fail
    refine (days_as H4.out w2).mono ?_
    rintro e w' ⟨rfl, rfl⟩
    go_wp2_with fail
    go_ret
    exact ⟨ret_bool (by rw [show B + 30 - B = 30 by omega]; rfl), b1.trans (b2.mono b1.size)⟩
  have HE := Lib.hid (F4.out (by omega))
  have hE := HE.out
  go_wp2_with fail
  go_wp2_with fail
  refine (told_any w HPW.out).mono ?_
  rintro e w1 ⟨rfl, b1⟩
  go_wp2_with fail
  refine (days_as H1.out w1).mono ?_
  rintro e w' ⟨rfl, rfl⟩
  go_wp2_with fail
  refine (days_as H2.out w1).mono ?_
  rintro e w' ⟨rfl, rfl⟩
  go_wp2_with fail
  refine (days_as H0.out w1).mono ?_
  rintro e w' ⟨rfl, rfl⟩
  go_wp2_with fail
  refine (days_as H3.out w1).mono ?_
  rintro e w' ⟨rfl, rfl⟩
  go_wp2_with fail
  refine (days_as H4.out w1).mono ?_
  rintro e w' ⟨rfl, rfl⟩
  go_wp2_with fail
  refine (month_any n (1 + q) w1 (by omega) (by omega)).mono ?_
  rintro e w2 ⟨rfl, b2⟩
  go_wp2_with fail
  refine (days_as H5.out w2).mono ?_
  rintro e w' ⟨rfl, rfl⟩
  go_wp2_with fail
  refine (days_as H4.out w2).mono ?_
  rintro e w' ⟨rfl, rfl⟩
  go_wp2_with fail
  go_ret
  exact ⟨ret_bool (by rw [show B + 30 - B = 30 by omega]; rfl), b1.trans (b2.mono b1.size)⟩
set_option maxRecDepth 100000 in
set_option maxHeartbeats 1000000 in
theorem years_2 (y m n q : Int) (w : World) (hP : Hid (Pow w)) (hY : Int.tmod (IntKind.u64.wrap y) 180001 = n + 90000) (hM : Int.tmod (IntKind.u64.wrap m) 12 = q) (hn1 : -90000 ≤ n) (hn2 : n ≤ 90000) (hq1 : 0 ≤ q) (hq2 : q ≤ 11)
    (ha : Int.tmod n 4 = 0) (hb : (Int.tmod n 100 != 0) = true) (hl : lp n = 1) :
    Calls Tryd.prog 8 #[.int .i64 y, .int .i64 m] w fun e w' => e = .returned (.bool true) ∧ Below w.heap.size w w' := by
  have HPW := hP
  clear hP
  obtain ⟨B, C, M, f0, f1, f2, f3, f4, f5, f6, h0, h1, h2, h3, h4, h5, h6, h7⟩ := years_facts n q hn1 hn2 hq1 hq2
  rw [hl] at h0 h7
  have H0 := Lib.hid h0
  have H1 := Lib.hid h1
  have H2 := Lib.hid h2
  have H3 := Lib.hid h3
  have H4 := Lib.hid h4
  have H5 := Lib.hid h5
  have F3 := Lib.hid h6
  have F4 := Lib.hid h7
  clear h0 h1 h2 h3 h4 h5 h6 h7 hl
  go_enter Tryd.func8, Tryd.ntmps8
  go_wp2_with fail
  refine (days_as H0.out w).mono ?_
  rintro e w' ⟨rfl, rfl⟩
  by_cases hk : 1 + q < 12
  · have HN := Lib.hid (F3.out hk)
    go_wp2_with fail
    refine (days_as HN.out w).mono ?_
    rintro e w' ⟨rfl, rfl⟩
    go_wp2_with fail
    refine (told_any w HPW.out).mono ?_
    rintro e w1 ⟨rfl, b1⟩
    go_wp2_with fail
    refine (days_as H1.out w1).mono ?_
    rintro e w' ⟨rfl, rfl⟩
    go_wp2_with fail
    refine (days_as H2.out w1).mono ?_
    rintro e w' ⟨rfl, rfl⟩
    go_wp2_with fail
    refine (days_as H0.out w1).mono ?_
    rintro e w' ⟨rfl, rfl⟩
    go_wp2_with fail
    refine (days_as H3.out w1).mono ?_
    rintro e w' ⟨rfl, rfl⟩
    go_wp2_with fail
    refine (days_as H4.out w1).mono ?_
    rintro e w' ⟨rfl, rfl⟩
    go_wp2_with fail
    refine (month_any n (1 + q) w1 (by omega) (by omega)).mono ?_
    rintro e w2 ⟨rfl, b2⟩
    go_wp2_with fail
    refine (days_as H5.out w2).mono ?_
    rintro e w' ⟨rfl, rfl⟩
    go_wp2_with fail
    refine (days_as H4.out w2).mono ?_
    rintro e w' ⟨rfl, rfl⟩
    go_wp2_with fail
    go_ret
    exact ⟨ret_bool (by rw [show B + 30 - B = 30 by omega]; rfl), b1.trans (b2.mono b1.size)⟩
  have HE := Lib.hid (F4.out (by omega))
  have hE := HE.out
  go_wp2_with fail
  go_wp2_with fail
  refine (told_any w HPW.out).mono ?_
  rintro e w1 ⟨rfl, b1⟩
  go_wp2_with fail
  refine (days_as H1.out w1).mono ?_
  rintro e w' ⟨rfl, rfl⟩
  go_wp2_with fail
  refine (days_as H2.out w1).mono ?_
  rintro e w' ⟨rfl, rfl⟩
  go_wp2_with fail
  refine (days_as H0.out w1).mono ?_
  rintro e w' ⟨rfl, rfl⟩
  go_wp2_with fail
  refine (days_as H3.out w1).mono ?_
  rintro e w' ⟨rfl, rfl⟩
  go_wp2_with fail
  refine (days_as H4.out w1).mono ?_
  rintro e w' ⟨rfl, rfl⟩
  go_wp2_with fail
  refine (month_any n (1 + q) w1 (by omega) (by omega)).mono ?_
  rintro e w2 ⟨rfl, b2⟩
  go_wp2_with fail
  refine (days_as H5.out w2).mono ?_
  rintro e w' ⟨rfl, rfl⟩
  go_wp2_with fail
  refine (days_as H4.out w2).mono ?_
  rintro e w' ⟨rfl, rfl⟩
  go_wp2_with fail
  go_ret
  exact ⟨ret_bool (by rw [show B + 30 - B = 30 by omega]; rfl), b1.trans (b2.mono b1.size)⟩
set_option maxRecDepth 100000 in
set_option maxHeartbeats 1000000 in
theorem years_3 (y m n q : Int) (w : World) (hP : Hid (Pow w)) (hY : Int.tmod (IntKind.u64.wrap y) 180001 = n + 90000) (hM : Int.tmod (IntKind.u64.wrap m) 12 = q) (hn1 : -90000 ≤ n) (hn2 : n ≤ 90000) (hq1 : 0 ≤ q) (hq2 : q ≤ 11)
    (ha : (Int.tmod n 4 == 0) = false) (hl : lp n = 0) :
    Calls Tryd.prog 8 #[.int .i64 y, .int .i64 m] w fun e w' => e = .returned (.bool true) ∧ Below w.heap.size w w' := by
  have HPW := hP
  clear hP
  obtain ⟨B, C, M, f0, f1, f2, f3, f4, f5, f6, h0, h1, h2, h3, h4, h5, h6, h7⟩ := years_facts n q hn1 hn2 hq1 hq2
  rw [hl] at h0 h7
  have H0 := Lib.hid h0
  have H1 := Lib.hid h1
  have H2 := Lib.hid h2
  have H3 := Lib.hid h3
  have H4 := Lib.hid h4
  have H5 := Lib.hid h5
  have F3 := Lib.hid h6
  have F4 := Lib.hid h7
  clear h0 h1 h2 h3 h4 h5 h6 h7 hl
  go_enter Tryd.func8, Tryd.ntmps8
  go_wp2_with fail
  refine (days_as H0.out w).mono ?_
  rintro e w' ⟨rfl, rfl⟩
  by_cases hk : 1 + q < 12
  · have HN := Lib.hid (F3.out hk)
    go_wp2_with fail
    refine (days_as HN.out w).mono ?_
    rintro e w' ⟨rfl, rfl⟩
    go_wp2_with fail
    refine (told_any w HPW.out).mono ?_
    rintro e w1 ⟨rfl, b1⟩
    go_wp2_with fail
    refine (days_as H1.out w1).mono ?_
    rintro e w' ⟨rfl, rfl⟩
    go_wp2_with fail
    refine (days_as H2.out w1).mono ?_
    rintro e w' ⟨rfl, rfl⟩
    go_wp2_with fail
    refine (days_as H0.out w1).mono ?_
    rintro e w' ⟨rfl, rfl⟩
    go_wp2_with fail
    refine (days_as H3.out w1).mono ?_
    rintro e w' ⟨rfl, rfl⟩
    go_wp2_with fail
    refine (days_as H4.out w1).mono ?_
    rintro e w' ⟨rfl, rfl⟩
    go_wp2_with fail
    refine (month_any n (1 + q) w1 (by omega) (by omega)).mono ?_
    rintro e w2 ⟨rfl, b2⟩
    go_wp2_with fail
    refine (days_as H5.out w2).mono ?_
    rintro e w' ⟨rfl, rfl⟩
    go_wp2_with fail
    refine (days_as H4.out w2).mono ?_
    rintro e w' ⟨rfl, rfl⟩
    go_wp2_with fail
    go_ret
    exact ⟨ret_bool (by rw [show B + 30 - B = 30 by omega]; rfl), b1.trans (b2.mono b1.size)⟩
  have HE := Lib.hid (F4.out (by omega))
  have hE := HE.out
  go_wp2_with fail
  go_wp2_with fail
  refine (told_any w HPW.out).mono ?_
  rintro e w1 ⟨rfl, b1⟩
  go_wp2_with fail
  refine (days_as H1.out w1).mono ?_
  rintro e w' ⟨rfl, rfl⟩
  go_wp2_with fail
  refine (days_as H2.out w1).mono ?_
  rintro e w' ⟨rfl, rfl⟩
  go_wp2_with fail
  refine (days_as H0.out w1).mono ?_
  rintro e w' ⟨rfl, rfl⟩
  go_wp2_with fail
  refine (days_as H3.out w1).mono ?_
  rintro e w' ⟨rfl, rfl⟩
  go_wp2_with fail
  refine (days_as H4.out w1).mono ?_
  rintro e w' ⟨rfl, rfl⟩
  go_wp2_with fail
  refine (month_any n (1 + q) w1 (by omega) (by omega)).mono ?_
  rintro e w2 ⟨rfl, b2⟩
  go_wp2_with fail
  refine (days_as H5.out w2).mono ?_
  rintro e w' ⟨rfl, rfl⟩
  go_wp2_with fail
  refine (days_as H4.out w2).mono ?_
  rintro e w' ⟨rfl, rfl⟩
  go_wp2_with fail
  go_ret
  exact ⟨ret_bool (by rw [show B + 30 - B = 30 by omega]; rfl), b1.trans (b2.mono b1.size)⟩

theorem years_law (y m : Int) (w : World) (hP : Pow w) :
    Calls Tryd.prog 8 #[.int .i64 y, .int .i64 m] w fun e w' => e = .returned (.bool true) ∧ Below w.heap.size w w' := by
  have a1 : 0 ≤ IntKind.u64.wrap y := by rw [IntKind.wrap_u64]; omega
  have a2 : 0 ≤ IntKind.u64.wrap m := by rw [IntKind.wrap_u64]; omega
  have b1 := Int.tmod_eq_emod_of_nonneg (b := 180001) a1
  have b2 := Int.tmod_eq_emod_of_nonneg (b := 12) a2
  have t4 := tmod0 (IntKind.u64.wrap y % 180001 - 90000) 4
  have t100 := tmod0 (IntKind.u64.wrap y % 180001 - 90000) 100
  have t400 := tmod0 (IntKind.u64.wrap y % 180001 - 90000) 400
  have e : IntKind.u64.wrap y % 180001 - 90000 + 90000 = IntKind.u64.wrap y % 180001 := by omega
  by_cases h4 : Int.tmod (IntKind.u64.wrap y % 180001 - 90000) 4 = 0
  · by_cases h100 : Int.tmod (IntKind.u64.wrap y % 180001 - 90000) 100 = 0
    · by_cases h400 : Int.tmod (IntKind.u64.wrap y % 180001 - 90000) 400 = 0
      · exact years_0 y m (IntKind.u64.wrap y % 180001 - 90000) (IntKind.u64.wrap m % 12) w (Lib.hid hP) (by rw [b1, e]) b2 (by omega) (by omega) (by omega) (by omega) h4 h100 h400 (if_pos ⟨t4.1 h4, .inr (t400.1 h400)⟩)
      · exact years_1 y m (IntKind.u64.wrap y % 180001 - 90000) (IntKind.u64.wrap m % 12) w (Lib.hid hP) (by rw [b1, e]) b2 (by omega) (by omega) (by omega) (by omega) h4 h100 (by simpa using h400) (if_neg fun h => h.2.elim (fun h => h (t100.1 h100)) (fun h => h400 (t400.2 h)))
    · exact years_2 y m (IntKind.u64.wrap y % 180001 - 90000) (IntKind.u64.wrap m % 12) w (Lib.hid hP) (by rw [b1, e]) b2 (by omega) (by omega) (by omega) (by omega) h4 (by simpa using h100) (if_pos ⟨t4.1 h4, .inl fun h => h100 (t100.2 h)⟩)
  · exact years_3 y m (IntKind.u64.wrap y % 180001 - 90000) (IntKind.u64.wrap m % 12) w (Lib.hid hP) (by rw [b1, e]) b2 (by omega) (by omega) (by omega) (by omega) (by simpa using h4) (if_neg fun h => h4 (t4.2 h.1))
end Go.Proofs.YtehlgnjbmdaakaaDoor.ClkC

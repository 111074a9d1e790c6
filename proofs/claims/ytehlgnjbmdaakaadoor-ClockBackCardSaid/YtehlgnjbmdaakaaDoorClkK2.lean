import Derived.Test.YtehlgnjbmdaakaaDoorClkK
namespace Go.Proofs.YtehlgnjbmdaakaaDoor.ClkC
open Go.RowKit Go.My Flt NumMath Txt Clk

set_option maxRecDepth 100000 in
set_option maxHeartbeats 4000000 in
theorem back_in0t (y m d h mi se V s : Int) (w : World) (HPW : Hid (Pow w)) (HS : Hid (∀ w, Calls Tryd.prog 10 #[.agg #[.int .i64 y, .int .i64 m, .int .i64 d, .int .i64 h, .int .i64 mi, .int .i64 se]] w fun e w' => e = .returned (.tuple #[.int .i64 V, .bool true]) ∧ Below w.heap.size w w')) (HFV : Hid (dateF V = dateV y m d h mi se))
    (h1 : -1099511627776 ≤ s) (h2 : s < 1099511627776) (Y M D H I S Y' M' D' H' I' S' N : Int) (HF : Hid (dateF s = dateV Y M D H I S)) (HF' : Hid (dateF (s + 1) = dateV Y' M' D' H' I' S')) (HN : Hid (daysF Y M D = N)) (HN' : Hid (daysF Y' M' D' = N))
    (b1 : -13000000 ≤ N) (b2 : N ≤ 13000000) (b3 : 0 ≤ H) (b4 : H ≤ 23) (b5 : 0 ≤ I) (b6 : I ≤ 59) (b7 : 0 ≤ S) (b8 : S ≤ 59) (hs : (N * 86400 + H * 3600 + I * 60 + S != s) = false) (hne : decide (Y = Y' ∧ M = M' ∧ D = D' ∧ H = H' ∧ I = I' ∧ S = S') = false) (hH : (H == 23) = false) (m1 : 1 ≤ M) (m2 : M ≤ 12) (d1 : 1 ≤ D) (d2 : D ≤ 31) :
    Calls Tryd.prog 4 #[.agg #[.int .i64 y, .int .i64 m, .int .i64 d, .int .i64 h, .int .i64 mi, .int .i64 se], .int .i64 s] w fun e w' => e = .returned (.bool true) ∧ Below w.heap.size w w' := by
  have he := eql_dates hne
  have hnn := neq_dates (show decide (y = y ∧ m = m ∧ d = d ∧ h = h ∧ mi = mi ∧ se = se) = true by simp)
  have hg0 := guard_dates
  clear hne
  go_enter Tryd.func4, Tryd.ntmps4
  go_wp2_with fail
  refine (HS.out _).mono ?_
  rintro e w1 ⟨rfl, b1⟩
  have hB : Below (w.heap.size + 1) (w.alloc (.cells #[.int .i64 y, .int .i64 m, .int .i64 d, .int .i64 h, .int .i64 mi, .int .i64 se] 23)) w1 := b1.mono (by simp)
  have hs : w.heap.size + 1 ≤ w1.heap.size := Nat.le_trans (by simp) b1.size
  clear b1
  have c1 := fun p : Later w1 => (later_box hB hs p).1
  have c2 := fun p : Later w1 => (later_box hB hs p).2.1
  have c3 := fun p : Later w1 => (later_box hB hs p).2.2.1
  have c4 := fun p : Later w1 => (later_box hB hs p).2.2.2.1
  have c5 := fun p : Later w1 => (later_box hB hs p).2.2.2.2.1
  have c6 := fun p : Later w1 => (later_box hB hs p).2.2.2.2.2
  have HB := Lib.hid hB
  have HS1 := Lib.hid hs
  clear hB hs
  go_wp2_with (refine wp_region_later (by kernel_rfl) (by kernel_rfl) ?_)
  repeat (go_big_quiet_step (first | (go_at_call 15; refine later_of (v := .agg #[.int .i64 y, .int .i64 m, .int .i64 d, .int .i64 h, .int .i64 mi, .int .i64 se]) (date_as V HFV.out _))))
  refine wpQuiet_nil ?_
  rintro _ ⟨p, rfl⟩
  have HP2 : Hid (Below w.heap.size w p.at') := Lib.hid ((alloc_below w _).trans ((HB.out.trans (p.kept.mono HS1.out)).mono (Nat.le_succ _)))
  clear c1 c2 c3 c4 c5 c6 HB HS1
  generalize p.at' = W2 at *
  go_wp2_with fail
  refine (date_as s HF.out W2).mono ?_
  rintro e w3 ⟨rfl, b3⟩
  go_wp2_with fail
  refine (date_as (s + 1) HF'.out w3).mono ?_
  rintro e w4 ⟨rfl, b4⟩
  have B4 := HP2.out.trans ((b3.trans (b4.mono b3.size)).mono HP2.out.size)
  clear b3 b4
  go_wp2_with fail
  refine (days_as HN.out _).mono ?_
  rintro e w5 ⟨rfl, rfl⟩
  have hk8 := two_boxes w4 Y M D H I S Y' M' D' H' I' S'
  have c1 := fun p : Later ((w4.alloc (.cells #[.int .i64 Y, .int .i64 M, .int .i64 D, .int .i64 H, .int .i64 I, .int .i64 S] 23)).alloc (.cells #[.int .i64 Y', .int .i64 M', .int .i64 D', .int .i64 H', .int .i64 I', .int .i64 S'] 23)) => (hk8 p).1.1
  have c2 := fun p : Later ((w4.alloc (.cells #[.int .i64 Y, .int .i64 M, .int .i64 D, .int .i64 H, .int .i64 I, .int .i64 S] 23)).alloc (.cells #[.int .i64 Y', .int .i64 M', .int .i64 D', .int .i64 H', .int .i64 I', .int .i64 S'] 23)) => (hk8 p).1.2.1
  have c3 := fun p : Later ((w4.alloc (.cells #[.int .i64 Y, .int .i64 M, .int .i64 D, .int .i64 H, .int .i64 I, .int .i64 S] 23)).alloc (.cells #[.int .i64 Y', .int .i64 M', .int .i64 D', .int .i64 H', .int .i64 I', .int .i64 S'] 23)) => (hk8 p).1.2.2.1
  have c4 := fun p : Later ((w4.alloc (.cells #[.int .i64 Y, .int .i64 M, .int .i64 D, .int .i64 H, .int .i64 I, .int .i64 S] 23)).alloc (.cells #[.int .i64 Y', .int .i64 M', .int .i64 D', .int .i64 H', .int .i64 I', .int .i64 S'] 23)) => (hk8 p).1.2.2.2.1
  have c5 := fun p : Later ((w4.alloc (.cells #[.int .i64 Y, .int .i64 M, .int .i64 D, .int .i64 H, .int .i64 I, .int .i64 S] 23)).alloc (.cells #[.int .i64 Y', .int .i64 M', .int .i64 D', .int .i64 H', .int .i64 I', .int .i64 S'] 23)) => (hk8 p).1.2.2.2.2.1
  have c6 := fun p : Later ((w4.alloc (.cells #[.int .i64 Y, .int .i64 M, .int .i64 D, .int .i64 H, .int .i64 I, .int .i64 S] 23)).alloc (.cells #[.int .i64 Y', .int .i64 M', .int .i64 D', .int .i64 H', .int .i64 I', .int .i64 S'] 23)) => (hk8 p).1.2.2.2.2.2
  have k1 := fun p : Later ((w4.alloc (.cells #[.int .i64 Y, .int .i64 M, .int .i64 D, .int .i64 H, .int .i64 I, .int .i64 S] 23)).alloc (.cells #[.int .i64 Y', .int .i64 M', .int .i64 D', .int .i64 H', .int .i64 I', .int .i64 S'] 23)) => (hk8 p).2.1
  have k2 := fun p : Later ((w4.alloc (.cells #[.int .i64 Y, .int .i64 M, .int .i64 D, .int .i64 H, .int .i64 I, .int .i64 S] 23)).alloc (.cells #[.int .i64 Y', .int .i64 M', .int .i64 D', .int .i64 H', .int .i64 I', .int .i64 S'] 23)) => (hk8 p).2.2.1
  have k3 := fun p : Later ((w4.alloc (.cells #[.int .i64 Y, .int .i64 M, .int .i64 D, .int .i64 H, .int .i64 I, .int .i64 S] 23)).alloc (.cells #[.int .i64 Y', .int .i64 M', .int .i64 D', .int .i64 H', .int .i64 I', .int .i64 S'] 23)) => (hk8 p).2.2.2.1
  have k4 := fun p : Later ((w4.alloc (.cells #[.int .i64 Y, .int .i64 M, .int .i64 D, .int .i64 H, .int .i64 I, .int .i64 S] 23)).alloc (.cells #[.int .i64 Y', .int .i64 M', .int .i64 D', .int .i64 H', .int .i64 I', .int .i64 S'] 23)) => (hk8 p).2.2.2.2.1
  have k5 := fun p : Later ((w4.alloc (.cells #[.int .i64 Y, .int .i64 M, .int .i64 D, .int .i64 H, .int .i64 I, .int .i64 S] 23)).alloc (.cells #[.int .i64 Y', .int .i64 M', .int .i64 D', .int .i64 H', .int .i64 I', .int .i64 S'] 23)) => (hk8 p).2.2.2.2.2.1
  have k6 := fun p : Later ((w4.alloc (.cells #[.int .i64 Y, .int .i64 M, .int .i64 D, .int .i64 H, .int .i64 I, .int .i64 S] 23)).alloc (.cells #[.int .i64 Y', .int .i64 M', .int .i64 D', .int .i64 H', .int .i64 I', .int .i64 S'] 23)) => (hk8 p).2.2.2.2.2.2
  clear hk8
  go_wp2_with (refine wp_region_later (by kernel_rfl) (by kernel_rfl) ?_)
  repeat (go_big_quiet_step (first | (go_at_call 13; refine later_same ((days_as' HN'.out _).mono fun _ _ h => ⟨h.1, h.2.symm⟩)) | (go_at_call 17; refine later_same ((boolean_any _ _).mono fun _ _ h => ⟨h.1, h.2.symm⟩))))
  refine wpQuiet_nil ?_
  rintro _ ⟨p, rfl⟩
  have B5 : Hid (Below w.heap.size w p.at') := Lib.hid ((B4.trans (((Below.refl _ w4).alloc (Nat.le_refl _) _).alloc (by simp) _ |>.mono B4.size)).trans (p.kept.mono (by have := B4.size; simp; omega)))
  have hk9 := two_boxes w4 Y M D H I S Y' M' D' H' I' S' p
  have hsz : w4.heap.size + 2 ≤ p.at'.heap.size := Nat.le_trans (by simp) p.kept.size
  clear c1 c2 c3 c4 c5 c6 k1 k2 k3 k4 k5 k6 B4
  generalize p.at' = W9 at *
  have HK := Lib.hid hk9.1
  have HZ := Lib.hid hsz
  clear hk9 hsz
  go_wp2_with fail
  refine (told_any W9 (HPW.out.below B5.out)).mono ?_
  rintro e w9 ⟨rfl, b9⟩
  have q1 := (b9.cell (p := ⟨w4.heap.size, 1, none⟩) (by have := HZ.out; show w4.heap.size < _; omega)).trans HK.out.2.1
  have q2 := (b9.cell (p := ⟨w4.heap.size, 2, none⟩) (by have := HZ.out; show w4.heap.size < _; omega)).trans HK.out.2.2.1
  have B9 := Lib.hid (B5.out.trans (b9.mono B5.out.size))
  clear b9
  go_wp2_with fail
  go_ret
  exact ⟨ret_bool (by first | rfl | simp), B9.out⟩

set_option maxRecDepth 100000 in
set_option maxHeartbeats 4000000 in
theorem back_in1t (y m d h mi se V s : Int) (w : World) (HPW : Hid (Pow w)) (HS : Hid (∀ w, Calls Tryd.prog 10 #[.agg #[.int .i64 y, .int .i64 m, .int .i64 d, .int .i64 h, .int .i64 mi, .int .i64 se]] w fun e w' => e = .returned (.tuple #[.int .i64 V, .bool true]) ∧ Below w.heap.size w w')) (HFV : Hid (dateF V = dateV y m d h mi se))
    (h1 : -1099511627776 ≤ s) (h2 : s < 1099511627776) (Y M D I S Y' M' D' H' I' S' N : Int) (HF : Hid (dateF s = dateV Y M D 23 I S)) (HF' : Hid (dateF (s + 1) = dateV Y' M' D' H' I' S')) (HN : Hid (daysF Y M D = N)) (HN' : Hid (daysF Y' M' D' = N))
    (b1 : -13000000 ≤ N) (b2 : N ≤ 13000000) (b5 : 0 ≤ I) (b6 : I ≤ 59) (b7 : 0 ≤ S) (b8 : S ≤ 59) (hs : (N * 86400 + 82800 + I * 60 + S != s) = false) (hne : decide (Y = Y' ∧ M = M' ∧ D = D' ∧ 23 = H' ∧ I = I' ∧ S = S') = false) (hI : (I == 59) = false) (m1 : 1 ≤ M) (m2 : M ≤ 12) (d1 : 1 ≤ D) (d2 : D ≤ 31) :
    Calls Tryd.prog 4 #[.agg #[.int .i64 y, .int .i64 m, .int .i64 d, .int .i64 h, .int .i64 mi, .int .i64 se], .int .i64 s] w fun e w' => e = .returned (.bool true) ∧ Below w.heap.size w w' := by
  have he := eql_dates hne
  have hnn := neq_dates (show decide (y = y ∧ m = m ∧ d = d ∧ h = h ∧ mi = mi ∧ se = se) = true by simp)
  have hg0 := guard_dates
  clear hne
  go_enter Tryd.func4, Tryd.ntmps4
  go_wp2_with fail
  refine (HS.out _).mono ?_
  rintro e w1 ⟨rfl, b1⟩
  have hB : Below (w.heap.size + 1) (w.alloc (.cells #[.int .i64 y, .int .i64 m, .int .i64 d, .int .i64 h, .int .i64 mi, .int .i64 se] 23)) w1 := b1.mono (by simp)
  have hs : w.heap.size + 1 ≤ w1.heap.size := Nat.le_trans (by simp) b1.size
  clear b1
  have c1 := fun p : Later w1 => (later_box hB hs p).1
  have c2 := fun p : Later w1 => (later_box hB hs p).2.1
  have c3 := fun p : Later w1 => (later_box hB hs p).2.2.1
  have c4 := fun p : Later w1 => (later_box hB hs p).2.2.2.1
  have c5 := fun p : Later w1 => (later_box hB hs p).2.2.2.2.1
  have c6 := fun p : Later w1 => (later_box hB hs p).2.2.2.2.2
  have HB := Lib.hid hB
  have HS1 := Lib.hid hs
  clear hB hs
  go_wp2_with (refine wp_region_later (by kernel_rfl) (by kernel_rfl) ?_)
  repeat (go_big_quiet_step (first | (go_at_call 15; refine later_of (v := .agg #[.int .i64 y, .int .i64 m, .int .i64 d, .int .i64 h, .int .i64 mi, .int .i64 se]) (date_as V HFV.out _))))
  refine wpQuiet_nil ?_
  rintro _ ⟨p, rfl⟩
  have HP2 : Hid (Below w.heap.size w p.at') := Lib.hid ((alloc_below w _).trans ((HB.out.trans (p.kept.mono HS1.out)).mono (Nat.le_succ _)))
  clear c1 c2 c3 c4 c5 c6 HB HS1
  generalize p.at' = W2 at *
  go_wp2_with fail
  refine (date_as s HF.out W2).mono ?_
  rintro e w3 ⟨rfl, b3⟩
  go_wp2_with fail
  refine (date_as (s + 1) HF'.out w3).mono ?_
  rintro e w4 ⟨rfl, b4⟩
  have B4 := HP2.out.trans ((b3.trans (b4.mono b3.size)).mono HP2.out.size)
  clear b3 b4
  go_wp2_with fail
  refine (days_as HN.out _).mono ?_
  rintro e w5 ⟨rfl, rfl⟩
  have hk8 := two_boxes w4 Y M D 23 I S Y' M' D' H' I' S'
  have c1 := fun p : Later ((w4.alloc (.cells #[.int .i64 Y, .int .i64 M, .int .i64 D, .int .i64 23, .int .i64 I, .int .i64 S] 23)).alloc (.cells #[.int .i64 Y', .int .i64 M', .int .i64 D', .int .i64 H', .int .i64 I', .int .i64 S'] 23)) => (hk8 p).1.1
  have c2 := fun p : Later ((w4.alloc (.cells #[.int .i64 Y, .int .i64 M, .int .i64 D, .int .i64 23, .int .i64 I, .int .i64 S] 23)).alloc (.cells #[.int .i64 Y', .int .i64 M', .int .i64 D', .int .i64 H', .int .i64 I', .int .i64 S'] 23)) => (hk8 p).1.2.1
  have c3 := fun p : Later ((w4.alloc (.cells #[.int .i64 Y, .int .i64 M, .int .i64 D, .int .i64 23, .int .i64 I, .int .i64 S] 23)).alloc (.cells #[.int .i64 Y', .int .i64 M', .int .i64 D', .int .i64 H', .int .i64 I', .int .i64 S'] 23)) => (hk8 p).1.2.2.1
  have c4 := fun p : Later ((w4.alloc (.cells #[.int .i64 Y, .int .i64 M, .int .i64 D, .int .i64 23, .int .i64 I, .int .i64 S] 23)).alloc (.cells #[.int .i64 Y', .int .i64 M', .int .i64 D', .int .i64 H', .int .i64 I', .int .i64 S'] 23)) => (hk8 p).1.2.2.2.1
  have c5 := fun p : Later ((w4.alloc (.cells #[.int .i64 Y, .int .i64 M, .int .i64 D, .int .i64 23, .int .i64 I, .int .i64 S] 23)).alloc (.cells #[.int .i64 Y', .int .i64 M', .int .i64 D', .int .i64 H', .int .i64 I', .int .i64 S'] 23)) => (hk8 p).1.2.2.2.2.1
  have c6 := fun p : Later ((w4.alloc (.cells #[.int .i64 Y, .int .i64 M, .int .i64 D, .int .i64 23, .int .i64 I, .int .i64 S] 23)).alloc (.cells #[.int .i64 Y', .int .i64 M', .int .i64 D', .int .i64 H', .int .i64 I', .int .i64 S'] 23)) => (hk8 p).1.2.2.2.2.2
  have k1 := fun p : Later ((w4.alloc (.cells #[.int .i64 Y, .int .i64 M, .int .i64 D, .int .i64 23, .int .i64 I, .int .i64 S] 23)).alloc (.cells #[.int .i64 Y', .int .i64 M', .int .i64 D', .int .i64 H', .int .i64 I', .int .i64 S'] 23)) => (hk8 p).2.1
  have k2 := fun p : Later ((w4.alloc (.cells #[.int .i64 Y, .int .i64 M, .int .i64 D, .int .i64 23, .int .i64 I, .int .i64 S] 23)).alloc (.cells #[.int .i64 Y', .int .i64 M', .int .i64 D', .int .i64 H', .int .i64 I', .int .i64 S'] 23)) => (hk8 p).2.2.1
  have k3 := fun p : Later ((w4.alloc (.cells #[.int .i64 Y, .int .i64 M, .int .i64 D, .int .i64 23, .int .i64 I, .int .i64 S] 23)).alloc (.cells #[.int .i64 Y', .int .i64 M', .int .i64 D', .int .i64 H', .int .i64 I', .int .i64 S'] 23)) => (hk8 p).2.2.2.1
  have k4 := fun p : Later ((w4.alloc (.cells #[.int .i64 Y, .int .i64 M, .int .i64 D, .int .i64 23, .int .i64 I, .int .i64 S] 23)).alloc (.cells #[.int .i64 Y', .int .i64 M', .int .i64 D', .int .i64 H', .int .i64 I', .int .i64 S'] 23)) => (hk8 p).2.2.2.2.1
  have k5 := fun p : Later ((w4.alloc (.cells #[.int .i64 Y, .int .i64 M, .int .i64 D, .int .i64 23, .int .i64 I, .int .i64 S] 23)).alloc (.cells #[.int .i64 Y', .int .i64 M', .int .i64 D', .int .i64 H', .int .i64 I', .int .i64 S'] 23)) => (hk8 p).2.2.2.2.2.1
  have k6 := fun p : Later ((w4.alloc (.cells #[.int .i64 Y, .int .i64 M, .int .i64 D, .int .i64 23, .int .i64 I, .int .i64 S] 23)).alloc (.cells #[.int .i64 Y', .int .i64 M', .int .i64 D', .int .i64 H', .int .i64 I', .int .i64 S'] 23)) => (hk8 p).2.2.2.2.2.2
  clear hk8
  go_wp2_with (refine wp_region_later (by kernel_rfl) (by kernel_rfl) ?_)
  repeat (go_big_quiet_step (first | (go_at_call 13; refine later_same ((days_as' HN'.out _).mono fun _ _ h => ⟨h.1, h.2.symm⟩)) | (go_at_call 17; refine later_same ((boolean_any _ _).mono fun _ _ h => ⟨h.1, h.2.symm⟩))))
  refine wpQuiet_nil ?_
  rintro _ ⟨p, rfl⟩
  have B5 : Hid (Below w.heap.size w p.at') := Lib.hid ((B4.trans (((Below.refl _ w4).alloc (Nat.le_refl _) _).alloc (by simp) _ |>.mono B4.size)).trans (p.kept.mono (by have := B4.size; simp; omega)))
  have hk9 := two_boxes w4 Y M D 23 I S Y' M' D' H' I' S' p
  have hsz : w4.heap.size + 2 ≤ p.at'.heap.size := Nat.le_trans (by simp) p.kept.size
  clear c1 c2 c3 c4 c5 c6 k1 k2 k3 k4 k5 k6 B4
  generalize p.at' = W9 at *
  have HK := Lib.hid hk9.1
  have HZ := Lib.hid hsz
  clear hk9 hsz
  go_wp2_with fail
  refine (told_any W9 (HPW.out.below B5.out)).mono ?_
  rintro e w9 ⟨rfl, b9⟩
  have q1 := (b9.cell (p := ⟨w4.heap.size, 1, none⟩) (by have := HZ.out; show w4.heap.size < _; omega)).trans HK.out.2.1
  have q2 := (b9.cell (p := ⟨w4.heap.size, 2, none⟩) (by have := HZ.out; show w4.heap.size < _; omega)).trans HK.out.2.2.1
  have B9 := Lib.hid (B5.out.trans (b9.mono B5.out.size))
  clear b9
  go_wp2_with fail
  go_ret
  exact ⟨ret_bool (by first | rfl | simp), B9.out⟩

set_option maxRecDepth 100000 in
set_option maxHeartbeats 4000000 in
theorem back_in2t (y m d h mi se V s : Int) (w : World) (HPW : Hid (Pow w)) (HS : Hid (∀ w, Calls Tryd.prog 10 #[.agg #[.int .i64 y, .int .i64 m, .int .i64 d, .int .i64 h, .int .i64 mi, .int .i64 se]] w fun e w' => e = .returned (.tuple #[.int .i64 V, .bool true]) ∧ Below w.heap.size w w')) (HFV : Hid (dateF V = dateV y m d h mi se))
    (h1 : -1099511627776 ≤ s) (h2 : s < 1099511627776) (Y M D S Y' M' D' H' I' S' N : Int) (HF : Hid (dateF s = dateV Y M D 23 59 S)) (HF' : Hid (dateF (s + 1) = dateV Y' M' D' H' I' S')) (HN : Hid (daysF Y M D = N)) (HN' : Hid (daysF Y' M' D' = N))
    (b1 : -13000000 ≤ N) (b2 : N ≤ 13000000) (b7 : 0 ≤ S) (b8 : S ≤ 59) (hs : (N * 86400 + 82800 + 3540 + S != s) = false) (hne : decide (Y = Y' ∧ M = M' ∧ D = D' ∧ 23 = H' ∧ 59 = I' ∧ S = S') = false) (hS9 : (S == 59) = false) (m1 : 1 ≤ M) (m2 : M ≤ 12) (d1 : 1 ≤ D) (d2 : D ≤ 31) :
    Calls Tryd.prog 4 #[.agg #[.int .i64 y, .int .i64 m, .int .i64 d, .int .i64 h, .int .i64 mi, .int .i64 se], .int .i64 s] w fun e w' => e = .returned (.bool true) ∧ Below w.heap.size w w' := by
  have he := eql_dates hne
  have hnn := neq_dates (show decide (y = y ∧ m = m ∧ d = d ∧ h = h ∧ mi = mi ∧ se = se) = true by simp)
  have hg0 := guard_dates
  clear hne
  go_enter Tryd.func4, Tryd.ntmps4
  go_wp2_with fail
  refine (HS.out _).mono ?_
  rintro e w1 ⟨rfl, b1⟩
  have hB : Below (w.heap.size + 1) (w.alloc (.cells #[.int .i64 y, .int .i64 m, .int .i64 d, .int .i64 h, .int .i64 mi, .int .i64 se] 23)) w1 := b1.mono (by simp)
  have hs : w.heap.size + 1 ≤ w1.heap.size := Nat.le_trans (by simp) b1.size
  clear b1
  have c1 := fun p : Later w1 => (later_box hB hs p).1
  have c2 := fun p : Later w1 => (later_box hB hs p).2.1
  have c3 := fun p : Later w1 => (later_box hB hs p).2.2.1
  have c4 := fun p : Later w1 => (later_box hB hs p).2.2.2.1
  have c5 := fun p : Later w1 => (later_box hB hs p).2.2.2.2.1
  have c6 := fun p : Later w1 => (later_box hB hs p).2.2.2.2.2
  have HB := Lib.hid hB
  have HS1 := Lib.hid hs
  clear hB hs
  go_wp2_with (refine wp_region_later (by kernel_rfl) (by kernel_rfl) ?_)
  repeat (go_big_quiet_step (first | (go_at_call 15; refine later_of (v := .agg #[.int .i64 y, .int .i64 m, .int .i64 d, .int .i64 h, .int .i64 mi, .int .i64 se]) (date_as V HFV.out _))))
  refine wpQuiet_nil ?_
  rintro _ ⟨p, rfl⟩
  have HP2 : Hid (Below w.heap.size w p.at') := Lib.hid ((alloc_below w _).trans ((HB.out.trans (p.kept.mono HS1.out)).mono (Nat.le_succ _)))
  clear c1 c2 c3 c4 c5 c6 HB HS1
  generalize p.at' = W2 at *
  go_wp2_with fail
  refine (date_as s HF.out W2).mono ?_
  rintro e w3 ⟨rfl, b3⟩
  go_wp2_with fail
  refine (date_as (s + 1) HF'.out w3).mono ?_
  rintro e w4 ⟨rfl, b4⟩
  have B4 := HP2.out.trans ((b3.trans (b4.mono b3.size)).mono HP2.out.size)
  clear b3 b4
  go_wp2_with fail
  refine (days_as HN.out _).mono ?_
  rintro e w5 ⟨rfl, rfl⟩
  have hk8 := two_boxes w4 Y M D 23 59 S Y' M' D' H' I' S'
  have c1 := fun p : Later ((w4.alloc (.cells #[.int .i64 Y, .int .i64 M, .int .i64 D, .int .i64 23, .int .i64 59, .int .i64 S] 23)).alloc (.cells #[.int .i64 Y', .int .i64 M', .int .i64 D', .int .i64 H', .int .i64 I', .int .i64 S'] 23)) => (hk8 p).1.1
  have c2 := fun p : Later ((w4.alloc (.cells #[.int .i64 Y, .int .i64 M, .int .i64 D, .int .i64 23, .int .i64 59, .int .i64 S] 23)).alloc (.cells #[.int .i64 Y', .int .i64 M', .int .i64 D', .int .i64 H', .int .i64 I', .int .i64 S'] 23)) => (hk8 p).1.2.1
  have c3 := fun p : Later ((w4.alloc (.cells #[.int .i64 Y, .int .i64 M, .int .i64 D, .int .i64 23, .int .i64 59, .int .i64 S] 23)).alloc (.cells #[.int .i64 Y', .int .i64 M', .int .i64 D', .int .i64 H', .int .i64 I', .int .i64 S'] 23)) => (hk8 p).1.2.2.1
  have c4 := fun p : Later ((w4.alloc (.cells #[.int .i64 Y, .int .i64 M, .int .i64 D, .int .i64 23, .int .i64 59, .int .i64 S] 23)).alloc (.cells #[.int .i64 Y', .int .i64 M', .int .i64 D', .int .i64 H', .int .i64 I', .int .i64 S'] 23)) => (hk8 p).1.2.2.2.1
  have c5 := fun p : Later ((w4.alloc (.cells #[.int .i64 Y, .int .i64 M, .int .i64 D, .int .i64 23, .int .i64 59, .int .i64 S] 23)).alloc (.cells #[.int .i64 Y', .int .i64 M', .int .i64 D', .int .i64 H', .int .i64 I', .int .i64 S'] 23)) => (hk8 p).1.2.2.2.2.1
  have c6 := fun p : Later ((w4.alloc (.cells #[.int .i64 Y, .int .i64 M, .int .i64 D, .int .i64 23, .int .i64 59, .int .i64 S] 23)).alloc (.cells #[.int .i64 Y', .int .i64 M', .int .i64 D', .int .i64 H', .int .i64 I', .int .i64 S'] 23)) => (hk8 p).1.2.2.2.2.2
  have k1 := fun p : Later ((w4.alloc (.cells #[.int .i64 Y, .int .i64 M, .int .i64 D, .int .i64 23, .int .i64 59, .int .i64 S] 23)).alloc (.cells #[.int .i64 Y', .int .i64 M', .int .i64 D', .int .i64 H', .int .i64 I', .int .i64 S'] 23)) => (hk8 p).2.1
  have k2 := fun p : Later ((w4.alloc (.cells #[.int .i64 Y, .int .i64 M, .int .i64 D, .int .i64 23, .int .i64 59, .int .i64 S] 23)).alloc (.cells #[.int .i64 Y', .int .i64 M', .int .i64 D', .int .i64 H', .int .i64 I', .int .i64 S'] 23)) => (hk8 p).2.2.1
  have k3 := fun p : Later ((w4.alloc (.cells #[.int .i64 Y, .int .i64 M, .int .i64 D, .int .i64 23, .int .i64 59, .int .i64 S] 23)).alloc (.cells #[.int .i64 Y', .int .i64 M', .int .i64 D', .int .i64 H', .int .i64 I', .int .i64 S'] 23)) => (hk8 p).2.2.2.1
  have k4 := fun p : Later ((w4.alloc (.cells #[.int .i64 Y, .int .i64 M, .int .i64 D, .int .i64 23, .int .i64 59, .int .i64 S] 23)).alloc (.cells #[.int .i64 Y', .int .i64 M', .int .i64 D', .int .i64 H', .int .i64 I', .int .i64 S'] 23)) => (hk8 p).2.2.2.2.1
  have k5 := fun p : Later ((w4.alloc (.cells #[.int .i64 Y, .int .i64 M, .int .i64 D, .int .i64 23, .int .i64 59, .int .i64 S] 23)).alloc (.cells #[.int .i64 Y', .int .i64 M', .int .i64 D', .int .i64 H', .int .i64 I', .int .i64 S'] 23)) => (hk8 p).2.2.2.2.2.1
  have k6 := fun p : Later ((w4.alloc (.cells #[.int .i64 Y, .int .i64 M, .int .i64 D, .int .i64 23, .int .i64 59, .int .i64 S] 23)).alloc (.cells #[.int .i64 Y', .int .i64 M', .int .i64 D', .int .i64 H', .int .i64 I', .int .i64 S'] 23)) => (hk8 p).2.2.2.2.2.2
  clear hk8
  go_wp2_with (refine wp_region_later (by kernel_rfl) (by kernel_rfl) ?_)
  repeat (go_big_quiet_step (first | (go_at_call 13; refine later_same ((days_as' HN'.out _).mono fun _ _ h => ⟨h.1, h.2.symm⟩)) | (go_at_call 17; refine later_same ((boolean_any _ _).mono fun _ _ h => ⟨h.1, h.2.symm⟩))))
  refine wpQuiet_nil ?_
  rintro _ ⟨p, rfl⟩
  have B5 : Hid (Below w.heap.size w p.at') := Lib.hid ((B4.trans (((Below.refl _ w4).alloc (Nat.le_refl _) _).alloc (by simp) _ |>.mono B4.size)).trans (p.kept.mono (by have := B4.size; simp; omega)))
  have hk9 := two_boxes w4 Y M D 23 59 S Y' M' D' H' I' S' p
  have hsz : w4.heap.size + 2 ≤ p.at'.heap.size := Nat.le_trans (by simp) p.kept.size
  clear c1 c2 c3 c4 c5 c6 k1 k2 k3 k4 k5 k6 B4
  generalize p.at' = W9 at *
  have HK := Lib.hid hk9.1
  have HZ := Lib.hid hsz
  clear hk9 hsz
  go_wp2_with fail
  refine (told_any W9 (HPW.out.below B5.out)).mono ?_
  rintro e w9 ⟨rfl, b9⟩
  have q1 := (b9.cell (p := ⟨w4.heap.size, 1, none⟩) (by have := HZ.out; show w4.heap.size < _; omega)).trans HK.out.2.1
  have q2 := (b9.cell (p := ⟨w4.heap.size, 2, none⟩) (by have := HZ.out; show w4.heap.size < _; omega)).trans HK.out.2.2.1
  have B9 := Lib.hid (B5.out.trans (b9.mono B5.out.size))
  clear b9
  go_wp2_with fail
  go_ret
  exact ⟨ret_bool (by first | rfl | simp), B9.out⟩

set_option maxRecDepth 100000 in
set_option maxHeartbeats 4000000 in
theorem back_in3t (y m d h mi se V s : Int) (w : World) (HPW : Hid (Pow w)) (HS : Hid (∀ w, Calls Tryd.prog 10 #[.agg #[.int .i64 y, .int .i64 m, .int .i64 d, .int .i64 h, .int .i64 mi, .int .i64 se]] w fun e w' => e = .returned (.tuple #[.int .i64 V, .bool true]) ∧ Below w.heap.size w w')) (HFV : Hid (dateF V = dateV y m d h mi se))
    (h1 : -1099511627776 ≤ s) (h2 : s < 1099511627776) (Y M D  Y' M' D' H' I' S' N : Int) (HF : Hid (dateF s = dateV Y M D 23 59 59)) (HF' : Hid (dateF (s + 1) = dateV Y' M' D' H' I' S')) (HN : Hid (daysF Y M D = N)) (HN' : Hid (daysF Y' M' D' = N + 1))
    (b1 : -13000000 ≤ N) (b2 : N ≤ 13000000) (hs : (N * 86400 + 82800 + 3540 + 59 != s) = false) (hne : decide (Y = Y' ∧ M = M' ∧ D = D' ∧ 23 = H' ∧ 59 = I' ∧ 59 = S') = false) (m1 : 1 ≤ M) (m2 : M ≤ 12) (d1 : 1 ≤ D) (d2 : D ≤ 31) :
    Calls Tryd.prog 4 #[.agg #[.int .i64 y, .int .i64 m, .int .i64 d, .int .i64 h, .int .i64 mi, .int .i64 se], .int .i64 s] w fun e w' => e = .returned (.bool true) ∧ Below w.heap.size w w' := by
  have he := eql_dates hne
  have hnn := neq_dates (show decide (y = y ∧ m = m ∧ d = d ∧ h = h ∧ mi = mi ∧ se = se) = true by simp)
  have hg0 := guard_dates
  clear hne
  go_enter Tryd.func4, Tryd.ntmps4
  go_wp2_with fail
  refine (HS.out _).mono ?_
  rintro e w1 ⟨rfl, b1⟩
  have hB : Below (w.heap.size + 1) (w.alloc (.cells #[.int .i64 y, .int .i64 m, .int .i64 d, .int .i64 h, .int .i64 mi, .int .i64 se] 23)) w1 := b1.mono (by simp)
  have hs : w.heap.size + 1 ≤ w1.heap.size := Nat.le_trans (by simp) b1.size
  clear b1
  have c1 := fun p : Later w1 => (later_box hB hs p).1
  have c2 := fun p : Later w1 => (later_box hB hs p).2.1
  have c3 := fun p : Later w1 => (later_box hB hs p).2.2.1
  have c4 := fun p : Later w1 => (later_box hB hs p).2.2.2.1
  have c5 := fun p : Later w1 => (later_box hB hs p).2.2.2.2.1
  have c6 := fun p : Later w1 => (later_box hB hs p).2.2.2.2.2
  have HB := Lib.hid hB
  have HS1 := Lib.hid hs
  clear hB hs
  go_wp2_with (refine wp_region_later (by kernel_rfl) (by kernel_rfl) ?_)
  repeat (go_big_quiet_step (first | (go_at_call 15; refine later_of (v := .agg #[.int .i64 y, .int .i64 m, .int .i64 d, .int .i64 h, .int .i64 mi, .int .i64 se]) (date_as V HFV.out _))))
  refine wpQuiet_nil ?_
  rintro _ ⟨p, rfl⟩
  have HP2 : Hid (Below w.heap.size w p.at') := Lib.hid ((alloc_below w _).trans ((HB.out.trans (p.kept.mono HS1.out)).mono (Nat.le_succ _)))
  clear c1 c2 c3 c4 c5 c6 HB HS1
  generalize p.at' = W2 at *
  go_wp2_with fail
  refine (date_as s HF.out W2).mono ?_
  rintro e w3 ⟨rfl, b3⟩
  go_wp2_with fail
  refine (date_as (s + 1) HF'.out w3).mono ?_
  rintro e w4 ⟨rfl, b4⟩
  have B4 := HP2.out.trans ((b3.trans (b4.mono b3.size)).mono HP2.out.size)
  clear b3 b4
  go_wp2_with fail
  refine (days_as HN.out _).mono ?_
  rintro e w5 ⟨rfl, rfl⟩
  have hk8 := two_boxes w4 Y M D 23 59 59 Y' M' D' H' I' S'
  have c1 := fun p : Later ((w4.alloc (.cells #[.int .i64 Y, .int .i64 M, .int .i64 D, .int .i64 23, .int .i64 59, .int .i64 59] 23)).alloc (.cells #[.int .i64 Y', .int .i64 M', .int .i64 D', .int .i64 H', .int .i64 I', .int .i64 S'] 23)) => (hk8 p).1.1
  have c2 := fun p : Later ((w4.alloc (.cells #[.int .i64 Y, .int .i64 M, .int .i64 D, .int .i64 23, .int .i64 59, .int .i64 59] 23)).alloc (.cells #[.int .i64 Y', .int .i64 M', .int .i64 D', .int .i64 H', .int .i64 I', .int .i64 S'] 23)) => (hk8 p).1.2.1
  have c3 := fun p : Later ((w4.alloc (.cells #[.int .i64 Y, .int .i64 M, .int .i64 D, .int .i64 23, .int .i64 59, .int .i64 59] 23)).alloc (.cells #[.int .i64 Y', .int .i64 M', .int .i64 D', .int .i64 H', .int .i64 I', .int .i64 S'] 23)) => (hk8 p).1.2.2.1
  have c4 := fun p : Later ((w4.alloc (.cells #[.int .i64 Y, .int .i64 M, .int .i64 D, .int .i64 23, .int .i64 59, .int .i64 59] 23)).alloc (.cells #[.int .i64 Y', .int .i64 M', .int .i64 D', .int .i64 H', .int .i64 I', .int .i64 S'] 23)) => (hk8 p).1.2.2.2.1
  have c5 := fun p : Later ((w4.alloc (.cells #[.int .i64 Y, .int .i64 M, .int .i64 D, .int .i64 23, .int .i64 59, .int .i64 59] 23)).alloc (.cells #[.int .i64 Y', .int .i64 M', .int .i64 D', .int .i64 H', .int .i64 I', .int .i64 S'] 23)) => (hk8 p).1.2.2.2.2.1
  have c6 := fun p : Later ((w4.alloc (.cells #[.int .i64 Y, .int .i64 M, .int .i64 D, .int .i64 23, .int .i64 59, .int .i64 59] 23)).alloc (.cells #[.int .i64 Y', .int .i64 M', .int .i64 D', .int .i64 H', .int .i64 I', .int .i64 S'] 23)) => (hk8 p).1.2.2.2.2.2
  have k1 := fun p : Later ((w4.alloc (.cells #[.int .i64 Y, .int .i64 M, .int .i64 D, .int .i64 23, .int .i64 59, .int .i64 59] 23)).alloc (.cells #[.int .i64 Y', .int .i64 M', .int .i64 D', .int .i64 H', .int .i64 I', .int .i64 S'] 23)) => (hk8 p).2.1
  have k2 := fun p : Later ((w4.alloc (.cells #[.int .i64 Y, .int .i64 M, .int .i64 D, .int .i64 23, .int .i64 59, .int .i64 59] 23)).alloc (.cells #[.int .i64 Y', .int .i64 M', .int .i64 D', .int .i64 H', .int .i64 I', .int .i64 S'] 23)) => (hk8 p).2.2.1
  have k3 := fun p : Later ((w4.alloc (.cells #[.int .i64 Y, .int .i64 M, .int .i64 D, .int .i64 23, .int .i64 59, .int .i64 59] 23)).alloc (.cells #[.int .i64 Y', .int .i64 M', .int .i64 D', .int .i64 H', .int .i64 I', .int .i64 S'] 23)) => (hk8 p).2.2.2.1
  have k4 := fun p : Later ((w4.alloc (.cells #[.int .i64 Y, .int .i64 M, .int .i64 D, .int .i64 23, .int .i64 59, .int .i64 59] 23)).alloc (.cells #[.int .i64 Y', .int .i64 M', .int .i64 D', .int .i64 H', .int .i64 I', .int .i64 S'] 23)) => (hk8 p).2.2.2.2.1
  have k5 := fun p : Later ((w4.alloc (.cells #[.int .i64 Y, .int .i64 M, .int .i64 D, .int .i64 23, .int .i64 59, .int .i64 59] 23)).alloc (.cells #[.int .i64 Y', .int .i64 M', .int .i64 D', .int .i64 H', .int .i64 I', .int .i64 S'] 23)) => (hk8 p).2.2.2.2.2.1
  have k6 := fun p : Later ((w4.alloc (.cells #[.int .i64 Y, .int .i64 M, .int .i64 D, .int .i64 23, .int .i64 59, .int .i64 59] 23)).alloc (.cells #[.int .i64 Y', .int .i64 M', .int .i64 D', .int .i64 H', .int .i64 I', .int .i64 S'] 23)) => (hk8 p).2.2.2.2.2.2
  clear hk8
  go_wp2_with (refine wp_region_later (by kernel_rfl) (by kernel_rfl) ?_)
  repeat (go_big_quiet_step (first | (go_at_call 13; refine later_same ((days_as' HN'.out _).mono fun _ _ h => ⟨h.1, h.2.symm⟩)) | (go_at_call 17; refine later_same ((boolean_any _ _).mono fun _ _ h => ⟨h.1, h.2.symm⟩))))
  refine wpQuiet_nil ?_
  rintro _ ⟨p, rfl⟩
  have B5 : Hid (Below w.heap.size w p.at') := Lib.hid ((B4.trans (((Below.refl _ w4).alloc (Nat.le_refl _) _).alloc (by simp) _ |>.mono B4.size)).trans (p.kept.mono (by have := B4.size; simp; omega)))
  have hk9 := two_boxes w4 Y M D 23 59 59 Y' M' D' H' I' S' p
  have hsz : w4.heap.size + 2 ≤ p.at'.heap.size := Nat.le_trans (by simp) p.kept.size
  clear c1 c2 c3 c4 c5 c6 k1 k2 k3 k4 k5 k6 B4
  generalize p.at' = W9 at *
  have HK := Lib.hid hk9.1
  have HZ := Lib.hid hsz
  clear hk9 hsz
  go_wp2_with fail
  refine (told_any W9 (HPW.out.below B5.out)).mono ?_
  rintro e w9 ⟨rfl, b9⟩
  have q1 := (b9.cell (p := ⟨w4.heap.size, 1, none⟩) (by have := HZ.out; show w4.heap.size < _; omega)).trans HK.out.2.1
  have q2 := (b9.cell (p := ⟨w4.heap.size, 2, none⟩) (by have := HZ.out; show w4.heap.size < _; omega)).trans HK.out.2.2.1
  have B9 := Lib.hid (B5.out.trans (b9.mono B5.out.size))
  clear b9
  go_wp2_with fail
  go_ret
  exact ⟨ret_bool (by first | rfl | simp), B9.out⟩
end Go.Proofs.YtehlgnjbmdaakaaDoor.ClkC

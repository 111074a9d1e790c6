import Derived.Test.YtehlgnjbmdaakaaDoorClkH
namespace Go.Proofs.YtehlgnjbmdaakaaDoor.ClkC
open Go.RowKit Go.My Flt NumMath Txt Clk

theorem days_as {y m d n : Int} (h : daysF y m d = n) (w : World) :
    Calls Tryd.prog 13 #[.int .i64 y, .int .i64 m, .int .i64 d] w fun e w' => e = .returned (.int .i64 n) ∧ w = w' := by
  subst h; exact days_any y m d w
theorem days_as' {y m d n : Int} (h : daysF y m d = n) (w : World) :
    Calls Tryd.prog 13 #[.int .i64 y, .int .i64 m, .int .i64 d] w fun e w' => e = .returned (.int .i64 n) ∧ w' = w := by
  subst h; exact days_any' y m d w
theorem boolean_any (b : Bool) (w : World) : Calls Tryd.prog 17 #[.bool b] w fun e w' => e = .returned (.int .i64 (if b then 1 else 0)) ∧ w' = w := by
  cases b
  · go_enter Tryd.func17, Tryd.ntmps17
    go_wp2_with fail
    go_ret
    exact ⟨rfl, rfl⟩
  · go_enter Tryd.func17, Tryd.ntmps17
    go_wp2_with fail
    go_ret
    exact ⟨rfl, rfl⟩
theorem date_far : dateF (-4611686018427387904) = dateV 0 0 0 0 0 0 := by unfold dateF; rw [if_pos (by omega)]


theorem two_boxes (w : World) (Y M D H I S Y' M' D' H' I' S' : Int) (p : Later ((w.alloc (.cells #[.int .i64 Y, .int .i64 M, .int .i64 D, .int .i64 H, .int .i64 I, .int .i64 S] 23)).alloc (.cells #[.int .i64 Y', .int .i64 M', .int .i64 D', .int .i64 H', .int .i64 I', .int .i64 S'] 23))) :
    Box6 w.heap.size Y M D H I S p.at' ∧ Box6 (w.heap.size + 1) Y' M' D' H' I' S' p.at' := by
  have hsz : (w.alloc (.cells #[.int .i64 Y, .int .i64 M, .int .i64 D, .int .i64 H, .int .i64 I, .int .i64 S] 23)).heap.size = w.heap.size + 1 := by simp
  have hsz2 : ((w.alloc (.cells #[.int .i64 Y, .int .i64 M, .int .i64 D, .int .i64 H, .int .i64 I, .int .i64 S] 23)).alloc (.cells #[.int .i64 Y', .int .i64 M', .int .i64 D', .int .i64 H', .int .i64 I', .int .i64 S'] 23)).heap.size = w.heap.size + 2 := by simp
  have hk := p.kept
  rw [hsz2] at hk
  refine ⟨box6 ((alloc_below (w.alloc (.cells #[.int .i64 Y, .int .i64 M, .int .i64 D, .int .i64 H, .int .i64 I, .int .i64 S] 23)) _ |>.mono (by rw [hsz]; exact Nat.le_refl _)).trans (hk.mono (Nat.le_succ _))), ?_⟩
  have := box6 (w := w.alloc (.cells #[.int .i64 Y, .int .i64 M, .int .i64 D, .int .i64 H, .int .i64 I, .int .i64 S] 23)) (w' := p.at') (v1 := Y') (v2 := M') (v3 := D') (v4 := H') (v5 := I') (v6 := S') (by rw [hsz]; exact hk)
  rw [hsz] at this
  exact this

set_option maxRecDepth 100000 in
set_option maxHeartbeats 1000000 in
/-- The second part, from the test on s on. -/
theorem back_out (B : Bool) (y m d h mi se V s : Int) (w : World) (HPW : Hid (Pow w)) (HS : Hid (∀ w, Calls Tryd.prog 10 #[.agg #[.int .i64 y, .int .i64 m, .int .i64 d, .int .i64 h, .int .i64 mi, .int .i64 se]] w fun e w' => e = .returned (.tuple #[.int .i64 V, .bool B]) ∧ Below w.heap.size w w'))
    (HV : Hid (B = true → dateF V = dateV y m d h mi se)) (hs : s < -1099511627776 ∨ 1099511627776 ≤ s) :
    Calls Tryd.prog 4 #[.agg #[.int .i64 y, .int .i64 m, .int .i64 d, .int .i64 h, .int .i64 mi, .int .i64 se], .int .i64 s] w fun e w' => e = .returned (.bool true) ∧ Below w.heap.size w w' := by
  have hT : decide ((0 : Int) = 0 ∧ (0 : Int) = 0 ∧ (0 : Int) = 0 ∧ (0 : Int) = 0 ∧ (0 : Int) = 0 ∧ (0 : Int) = 0) = true := by simp
  have he := eql_dates hT
  have hne := neq_dates (show decide (y = y ∧ m = m ∧ d = d ∧ h = h ∧ mi = mi ∧ se = se) = true by simp)
  have hg := guard_dates
  clear hT
  cases B
  · rcases hs with hs | hs
    · go_enter Tryd.func4, Tryd.ntmps4
      go_wp2_with fail
      refine (HS.out _).mono ?_
      rintro e w1 ⟨rfl, b1⟩
      have hB : Below (w.heap.size + 1) (w.alloc (.cells #[.int .i64 y, .int .i64 m, .int .i64 d, .int .i64 h, .int .i64 mi, .int .i64 se] 23)) w1 := b1.mono (by simp)
      have hs : w.heap.size + 1 ≤ w1.heap.size := Nat.le_trans (by simp) b1.size
      clear b1
      have c1 := fun p : Later w1 => (later_box hB hs p).1
      have c2 := fun p : Later w1 => (later_box hB hs p).2.1
      have c3 := fun p : Later w1 => (later_box hB hs p).2.2.1
      have c4 := fun p : Later w1 => (later_box hB hs p).2.2.2.1
      have c5 := fun p : Later w1 => (later_box hB hs p).2.2.2.2.1
      have c6 := fun p : Later w1 => (later_box hB hs p).2.2.2.2.2
      have HB := Lib.hid hB
      have HS1 := Lib.hid hs
      clear hB hs
      go_wp2_with (refine wp_region_later (by kernel_rfl) (by kernel_rfl) ?_)
      repeat (go_big_quiet_step (first | (go_at_call 15; refine later_of (v := .agg #[.int .i64 y, .int .i64 m, .int .i64 d, .int .i64 h, .int .i64 mi, .int .i64 se]) (date_as V (by assumption) _))))
      refine wpQuiet_nil ?_
      rintro _ ⟨p, rfl⟩
      have HP2 : Hid (Below w.heap.size w p.at') := Lib.hid ((alloc_below w _).trans ((HB.out.trans (p.kept.mono HS1.out)).mono (Nat.le_succ _)))
      clear c1 c2 c3 c4 c5 c6 HB HS1
      generalize p.at' = W2 at *
      go_wp2_with fail
      refine (told_any W2 (HPW.out.below HP2.out)).mono ?_
      rintro e w3 ⟨rfl, b3⟩
      go_wp2_with fail
      refine (date_as _ date_far w3).mono ?_
      rintro e w4 ⟨rfl, b4⟩
      go_wp2_with fail
      go_ret
      exact ⟨rfl, HP2.out.trans ((b3.trans (b4.mono b3.size)).mono HP2.out.size)⟩
    · go_enter Tryd.func4, Tryd.ntmps4
      go_wp2_with fail
      refine (HS.out _).mono ?_
      rintro e w1 ⟨rfl, b1⟩
      have hB : Below (w.heap.size + 1) (w.alloc (.cells #[.int .i64 y, .int .i64 m, .int .i64 d, .int .i64 h, .int .i64 mi, .int .i64 se] 23)) w1 := b1.mono (by simp)
      have hs : w.heap.size + 1 ≤ w1.heap.size := Nat.le_trans (by simp) b1.size
      clear b1
      have c1 := fun p : Later w1 => (later_box hB hs p).1
      have c2 := fun p : Later w1 => (later_box hB hs p).2.1
      have c3 := fun p : Later w1 => (later_box hB hs p).2.2.1
      have c4 := fun p : Later w1 => (later_box hB hs p).2.2.2.1
      have c5 := fun p : Later w1 => (later_box hB hs p).2.2.2.2.1
      have c6 := fun p : Later w1 => (later_box hB hs p).2.2.2.2.2
      have HB := Lib.hid hB
      have HS1 := Lib.hid hs
      clear hB hs
      go_wp2_with (refine wp_region_later (by kernel_rfl) (by kernel_rfl) ?_)
      repeat (go_big_quiet_step (first | (go_at_call 15; refine later_of (v := .agg #[.int .i64 y, .int .i64 m, .int .i64 d, .int .i64 h, .int .i64 mi, .int .i64 se]) (date_as V (by assumption) _))))
      refine wpQuiet_nil ?_
      rintro _ ⟨p, rfl⟩
      have HP2 : Hid (Below w.heap.size w p.at') := Lib.hid ((alloc_below w _).trans ((HB.out.trans (p.kept.mono HS1.out)).mono (Nat.le_succ _)))
      clear c1 c2 c3 c4 c5 c6 HB HS1
      generalize p.at' = W2 at *
      go_wp2_with fail
      refine (told_any W2 (HPW.out.below HP2.out)).mono ?_
      rintro e w3 ⟨rfl, b3⟩
      go_wp2_with fail
      refine (date_as _ date_far w3).mono ?_
      rintro e w4 ⟨rfl, b4⟩
      go_wp2_with fail
      go_ret
      exact ⟨rfl, HP2.out.trans ((b3.trans (b4.mono b3.size)).mono HP2.out.size)⟩
  · have HFV : Hid (dateF V = dateV y m d h mi se) := Lib.hid (HV.out rfl)
    clear HV
    rcases hs with hs | hs
    · go_enter Tryd.func4, Tryd.ntmps4
      go_wp2_with fail
      refine (HS.out _).mono ?_
      rintro e w1 ⟨rfl, b1⟩
      have hB : Below (w.heap.size + 1) (w.alloc (.cells #[.int .i64 y, .int .i64 m, .int .i64 d, .int .i64 h, .int .i64 mi, .int .i64 se] 23)) w1 := b1.mono (by simp)
      have hs : w.heap.size + 1 ≤ w1.heap.size := Nat.le_trans (by simp) b1.size
      clear b1
      have c1 := fun p : Later w1 => (later_box hB hs p).1
      have c2 := fun p : Later w1 => (later_box hB hs p).2.1
      have c3 := fun p : Later w1 => (later_box hB hs p).2.2.1
      have c4 := fun p : Later w1 => (later_box hB hs p).2.2.2.1
      have c5 := fun p : Later w1 => (later_box hB hs p).2.2.2.2.1
      have c6 := fun p : Later w1 => (later_box hB hs p).2.2.2.2.2
      have HB := Lib.hid hB
      have HS1 := Lib.hid hs
      clear hB hs
      go_wp2_with (refine wp_region_later (by kernel_rfl) (by kernel_rfl) ?_)
      repeat (go_big_quiet_step (first | (go_at_call 15; refine later_of (v := .agg #[.int .i64 y, .int .i64 m, .int .i64 d, .int .i64 h, .int .i64 mi, .int .i64 se]) (date_as V HFV.out _))))
      refine wpQuiet_nil ?_
      rintro _ ⟨p, rfl⟩
      have HP2 : Hid (Below w.heap.size w p.at') := Lib.hid ((alloc_below w _).trans ((HB.out.trans (p.kept.mono HS1.out)).mono (Nat.le_succ _)))
      clear c1 c2 c3 c4 c5 c6 HB HS1
      generalize p.at' = W2 at *
      go_wp2_with fail
      refine (told_any W2 (HPW.out.below HP2.out)).mono ?_
      rintro e w3 ⟨rfl, b3⟩
      go_wp2_with fail
      refine (date_as _ date_far w3).mono ?_
      rintro e w4 ⟨rfl, b4⟩
      go_wp2_with fail
      go_ret
      exact ⟨rfl, HP2.out.trans ((b3.trans (b4.mono b3.size)).mono HP2.out.size)⟩
    · go_enter Tryd.func4, Tryd.ntmps4
      go_wp2_with fail
      refine (HS.out _).mono ?_
      rintro e w1 ⟨rfl, b1⟩
      have hB : Below (w.heap.size + 1) (w.alloc (.cells #[.int .i64 y, .int .i64 m, .int .i64 d, .int .i64 h, .int .i64 mi, .int .i64 se] 23)) w1 := b1.mono (by simp)
      have hs : w.heap.size + 1 ≤ w1.heap.size := Nat.le_trans (by simp) b1.size
      clear b1
      have c1 := fun p : Later w1 => (later_box hB hs p).1
      have c2 := fun p : Later w1 => (later_box hB hs p).2.1
      have c3 := fun p : Later w1 => (later_box hB hs p).2.2.1
      have c4 := fun p : Later w1 => (later_box hB hs p).2.2.2.1
      have c5 := fun p : Later w1 => (later_box hB hs p).2.2.2.2.1
      have c6 := fun p : Later w1 => (later_box hB hs p).2.2.2.2.2
      have HB := Lib.hid hB
      have HS1 := Lib.hid hs
      clear hB hs
      go_wp2_with (refine wp_region_later (by kernel_rfl) (by kernel_rfl) ?_)
      repeat (go_big_quiet_step (first | (go_at_call 15; refine later_of (v := .agg #[.int .i64 y, .int .i64 m, .int .i64 d, .int .i64 h, .int .i64 mi, .int .i64 se]) (date_as V HFV.out _))))
      refine wpQuiet_nil ?_
      rintro _ ⟨p, rfl⟩
      have HP2 : Hid (Below w.heap.size w p.at') := Lib.hid ((alloc_below w _).trans ((HB.out.trans (p.kept.mono HS1.out)).mono (Nat.le_succ _)))
      clear c1 c2 c3 c4 c5 c6 HB HS1
      generalize p.at' = W2 at *
      go_wp2_with fail
      refine (told_any W2 (HPW.out.below HP2.out)).mono ?_
      rintro e w3 ⟨rfl, b3⟩
      go_wp2_with fail
      refine (date_as _ date_far w3).mono ?_
      rintro e w4 ⟨rfl, b4⟩
      go_wp2_with fail
      go_ret
      exact ⟨rfl, HP2.out.trans ((b3.trans (b4.mono b3.size)).mono HP2.out.size)⟩

theorem back_facts (s : Int) (h1 : -1099511627776 ≤ s) (h2 : s < 1099511627776) : ∃ Y M D H I S Y' M' D' H' I' S' N N' : Int, dateF s = dateV Y M D H I S ∧ dateF (s + 1) = dateV Y' M' D' H' I' S' ∧ daysF Y M D = N ∧ daysF Y' M' D' = N' ∧
    -13000000 ≤ N ∧ N ≤ 13000000 ∧ 0 ≤ H ∧ H ≤ 23 ∧ 0 ≤ I ∧ I ≤ 59 ∧ 0 ≤ S ∧ S ≤ 59 ∧ N * 86400 + H * 3600 + I * 60 + S = s ∧ ¬ (Y = Y' ∧ M = M' ∧ D = D' ∧ H = H' ∧ I = I' ∧ S = S') ∧
    ((H = 23 ∧ I = 59 ∧ S = 59 ∧ N' = N + 1) ∨ (¬ (H = 23 ∧ I = 59 ∧ S = 59) ∧ N' = N)) ∧ 1 ≤ M ∧ M ≤ 12 ∧ 1 ≤ D ∧ D ≤ 31 := by
  obtain ⟨Y, M, D, H, I, S, hF, hC⟩ := date_letters s
  obtain ⟨Y', M', D', H', I', S', hF', hC'⟩ := date_letters (s + 1)
  rcases hC with ⟨_, _, hv, hd, e4, e5, e6, hy1, hy2⟩ | hC
  rcases hC' with ⟨_, _, hv', hd', e4', e5', e6', hy1', hy2'⟩ | hC'
  · have hm := (mlen_pos Y M).2
    have hm' := (mlen_pos Y' M').2
    obtain ⟨v1, v2, v3, v4⟩ := hv
    obtain ⟨u1, u2, u3, u4⟩ := hv'
    have n1 : daysF Y M D = s / 86400 := by rw [← hd]; exact if_neg (by omega)
    have n2 : daysF Y' M' D' = (s + 1) / 86400 := by rw [← hd']; exact if_neg (by omega)
    refine ⟨Y, M, D, H, I, S, Y', M', D', H', I', S', s / 86400, (s + 1) / 86400, hF, hF', n1, n2, by omega, by omega, by omega, by omega, by omega, by omega, by omega, by omega, by omega, ?_, ?_, v1, v2, v3, by omega⟩
    · rintro ⟨rfl, rfl, rfl, q4, q5, q6⟩
      rw [hd] at hd'
      omega
    · omega
  · omega
  · omega

end Go.Proofs.YtehlgnjbmdaakaaDoor.ClkC

import Derived.Test.YtehlgnjbmdaakaaDoorClkH
import Derived.Test.YtehlgnjbmdaakaaDoorClkR
namespace Go.Proofs.YtehlgnjbmdaakaaDoor.ClkC
open Go.RowKit Go.My Flt NumMath Txt Clk

theorem refdate_as (x : Int) {y m d h mi s : Int} (hF : dateF x = dateV y m d h mi s) (w : World) :
    Calls Tryd.prog 16 #[.int .i64 x] w fun e w' => e = .returned (.agg #[.int .i64 y, .int .i64 m, .int .i64 d, .int .i64 h, .int .i64 mi, .int .i64 s]) ∧ Below w.heap.size w w' := by
  have := refdate_any x w
  rw [hF] at this
  exact this

set_option maxRecDepth 100000 in
set_option maxHeartbeats 1000000 in
theorem dates_law (y m d s xy xm xd xh xi xs : Int) (w : World) (hP : Pow w) :
    Calls Tryd.prog 3 #[.int .i64 y, .int .i64 m, .int .i64 d, .int .i64 s, dateV xy xm xd xh xi xs] w fun e w' => e = .returned (.bool true) ∧ Below w.heap.size w w' := by
  have HPW := Lib.hid hP
  have hS := seconds_any xy xm xd xh xi xs
  have hR := refseconds_any xy xm xd xh xi xs
  generalize secV xy xm xd xh xi xs = V at *
  generalize secB xy xm xd xh xi xs = B at *
  obtain ⟨Y, M, D, H, I, S, hF, _⟩ := date_letters s
  have HF := Lib.hid hF
  have hT : decide (Y = Y ∧ M = M ∧ D = D ∧ H = H ∧ I = I ∧ S = S) = true := by simp
  have he := eql_dates hT
  have hg := guard_dates
  have hd1 := days_any y m d
  have hd2 := refdays_any y m d
  generalize daysF y m d = Z at *
  have HD1 := Lib.hid hd1
  have HD2 := Lib.hid hd2
  unfold dateV at hS hR ⊢
  have HS := Lib.hid hS
  have HR := Lib.hid hR
  clear hP hS hR hF hd1 hd2 hT
  go_enter Tryd.func3, Tryd.ntmps3
  go_wp2_with fail
  refine (HS.out _).mono ?_
  rintro e w1 ⟨rfl, b1⟩
  have B1 := (alloc_below w _).trans (b1.mono (by simp))
  have c := box6 (b1.mono (by simp))
  clear b1
  obtain ⟨c1, c2, c3, c4, c5, c6⟩ := c
  go_wp2_with fail
  refine (HR.out _).mono ?_
  rintro e w2 ⟨rfl, b2⟩
  have B2 := B1.trans (b2.mono B1.size)
  have HP2 := Lib.hid (HPW.out.below B2)
  clear B1 b2 c1 c2 c3 c4 c5 c6
  go_wp2_with fail
  refine (told_any w2 HP2.out).mono ?_
  rintro e w3 ⟨rfl, b3⟩
  have B3 := B2.trans (b3.mono B2.size)
  clear B2 b3
  go_wp2_with fail
  refine (HD1.out w3).mono ?_
  rintro e w' ⟨rfl, rfl⟩
  go_wp2_with fail
  refine (HD2.out w3).mono ?_
  rintro e w4 ⟨rfl, b4⟩
  have B4 := B3.trans (b4.mono B3.size)
  clear B3 b4
  go_wp2_with fail
  refine (date_as s HF.out w4).mono ?_
  rintro e w5 ⟨rfl, b5⟩
  have B5 := B4.trans (b5.mono B4.size)
  clear B4 b5
  go_wp2_with fail
  refine (refdate_as s HF.out w5).mono ?_
  rintro e w6 ⟨rfl, b6⟩
  have B6 := B5.trans (b6.mono B5.size)
  clear B5 b6
  go_wp2_with fail
  go_ret
  exact ⟨ret_bool (by first | rfl | simp), B6⟩
end Go.Proofs.YtehlgnjbmdaakaaDoor.ClkC

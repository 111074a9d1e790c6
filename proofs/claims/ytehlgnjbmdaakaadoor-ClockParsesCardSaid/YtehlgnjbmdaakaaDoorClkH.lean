import Derived.Test.YtehlgnjbmdaakaaDoorClkQ
import Derived.Test.YtehlgnjbmdaakaaDoorClkG
namespace Go.Proofs.YtehlgnjbmdaakaaDoor.ClkC
open Go.RowKit Go.My Flt NumMath Txt Clk

theorem fineP_fl (p : Int) (h1 : -4398046511104 ≤ p) (h2 : p ≤ 4398046511104) : fineP (fl p) = p := by
  unfold fineP
  rw [isNaN_fl p (by omega), par_fl p (by omega)]
  simp only [Bool.false_eq_true, if_false]
  omega
theorem t_dos : dosT 0 = 2162688 := by
  have hp : par 0 = 0 := by unfold par; rw [K_0, Int.zero_ediv]
  have hs : secT 0 = 315532800 := by unfold secT; rw [hp]; decide
  unfold dosT
  rw [n_0, hs]
  decide +kernel
theorem l_15 : fl (-768) = 13832806255468478464 := by decide +kernel
theorem l_m1 : fl (-1) = 13790022059008458752 := by decide +kernel
theorem l_5 : fl 2560 = 4617315517961601024 := by decide +kernel
theorem t_text : textF (fineP 13832806255468478464) = [45, 49, 46, 53] := by
  rw [← l_15, fineP_fl _ (by omega) (by omega)]
  unfold textF
  rw [dec_dg 3 _ (by decide) (by decide)]
  decide +kernel
theorem t_parse : parseP (⟨#[45, 48, 46, 48, 48, 49]⟩ : ByteArray).data.toList = -1 ∧ parseE (⟨#[45, 48, 46, 48, 48, 49]⟩ : ByteArray).data.toList = 0 := by decide +kernel
theorem t_days : daysF 1970 1 2 = 1 := by decide +kernel
theorem t_five : fromU 5 = 4617315517961601024 := by rw [← l_5]; rfl
theorem eq_self (p : Int) (h : p.natAbs < 9007199254740992) : (FloatKind.f64.format.order (fl p) (fl p) == some .eq) = true := self_num' (isNaN_fl p h)

set_option maxRecDepth 100000 in
set_option maxHeartbeats 1000000 in
theorem told_any (w : World) (hP : Pow w) :
    Calls Tryd.prog 12 #[] w fun e w' => e = .returned (.bool true) ∧ Below w.heap.size w w' := by
  have HPW := Lib.hid hP
  clear hP
  have hq1 : (FloatKind.f64.format.order 13790022059008458752 13790022059008458752 == some .eq) = true := by have := eq_self (-1) (by decide); rw [l_m1] at this; exact this
  have hq2 : (FloatKind.f64.format.order 4617315517961601024 4617315517961601024 == some .eq) = true := by have := eq_self 2560 (by decide); rw [l_5] at this; exact this
  go_enter Tryd.func12, Tryd.ntmps12
  go_wp2_with fail
  refine (none_any w).mono ?_
  rintro e w1 ⟨⟨r, rfl, hn⟩, b1⟩
  have HN := Lib.hid hn
  clear hn
  go_wp2_with fail
  refine (parse_any ⟨#[45, 48, 46, 48, 48, 49]⟩ w1 (by decide)).mono ?_
  rintro e w2 ⟨rfl, b2⟩
  rw [t_parse.1, t_parse.2, l_m1]
  have B2 := b1.trans (b2.mono b1.size)
  clear b1 b2
  go_wp2_with fail
  refine (dos_any 0 w2).mono ?_
  rintro e w3 ⟨rfl, b3⟩
  rw [t_dos]
  have B3 := B2.trans (b3.mono B2.size)
  have HP3 := Lib.hid (HPW.out.below B3)
  clear B2 b3
  go_wp2_with fail
  refine (text_any 13832806255468478464 w3 HP3.out).mono ?_
  rintro e w4 ⟨rfl, b4⟩
  rw [t_text]
  have B4 := B3.trans (b4.mono B3.size)
  clear B3 b4
  go_wp2_with fail
  refine (same_nans HN.out HN.out w4).mono ?_
  rintro e w5 ⟨rfl, rfl⟩
  go_wp2_with fail
  refine (unix_any r w4).mono ?_
  rintro e w5 ⟨rfl, rfl⟩
  rw [show unixT r = 0 by unfold unixT; rw [HN.out]; rfl]
  go_wp2_with fail
  refine (days_any 1970 1 2 w4).mono ?_
  rintro e w5 ⟨rfl, rfl⟩
  rw [t_days]
  go_wp2_with fail
  refine (fromunix_any 5 w4).mono ?_
  rintro e w5 ⟨rfl, rfl⟩
  rw [t_five]
  go_wp2_with fail
  go_ret
  exact ⟨rfl, B4⟩
end Go.Proofs.YtehlgnjbmdaakaaDoor.ClkC

import Derived.Test.YtehlgnjbmdaakaaDoorClkV
namespace Go.Proofs.YtehlgnjbmdaakaaDoor.ClkC
open Go.RowKit Go.My Flt NumMath Txt Clk

set_option maxRecDepth 100000 in
theorem parts_any (t : Nat) (w : World) :
    Calls Tryd.prog 42 #[.float .f64 t] w fun e w' => e = .returned (.int .i64 (fineP t)) ∧ w = w' := by
  cases hn : isNaN t
  case true =>
    have e1 := self_nan hn
    have HP : Hid (fineP t = 0) := Lib.hid (by unfold fineP; rw [hn]; rfl)
    rw [HP.out]
    clear hn HP
    go_enter Tryd.func42, Tryd.ntmps42
    go_wp2_with fail
    go_ret
    exact ⟨rfl, rfl⟩
  have e1 := self_num hn
  have hP : fineP t = max (-4398046511104) (min 4398046511104 (par t)) := by unfold fineP; rw [hn]; rfl
  by_cases hlo : K t ≤ -4398046511104 * (Q : Int)
  · have e3 : (FloatKind.f64.format.order t 13979173243358019584 == some .lt || FloatKind.f64.format.order t 13979173243358019584 == some .eq) = true := by rw [f_le, hn, n_lo, K_lo, decide_eq_true hlo]; rfl
    have HP : Hid (fineP t = -4398046511104) := Lib.hid (by have := par_le hlo; omega)
    rw [HP.out]
    clear hn HP hP hlo
    go_enter Tryd.func42, Tryd.ntmps42
    go_wp2_with fail
    go_ret
    exact ⟨rfl, rfl⟩
  have e3 : (FloatKind.f64.format.order t 13979173243358019584 == some .lt || FloatKind.f64.format.order t 13979173243358019584 == some .eq) = false := by rw [f_le, hn, n_lo, K_lo, decide_eq_false hlo]; rfl
  by_cases hhi : 4398046511104 * (Q : Int) ≤ K t
  · have e4 : (FloatKind.f64.format.order t 4755801206503243776 == some .gt || FloatKind.f64.format.order t 4755801206503243776 == some .eq) = true := by rw [f_ge, hn, n_hi, K_hi, decide_eq_true hhi]; rfl
    have HP : Hid (fineP t = 4398046511104) := Lib.hid (by have := (ge_iff t _).1 hhi; omega)
    rw [HP.out]
    clear hn HP hP hlo hhi
    go_enter Tryd.func42, Tryd.ntmps42
    go_wp2_with fail
    go_ret
    exact ⟨rfl, rfl⟩
  have e4 : (FloatKind.f64.format.order t 4755801206503243776 == some .gt || FloatKind.f64.format.order t 4755801206503243776 == some .eq) = false := by rw [f_ge, hn, n_hi, K_hi, decide_eq_false hhi]; rfl
  obtain ⟨hfin, hab, hp1, hp2⟩ := in_range hn (by omega) (by omega)
  obtain ⟨r, hm, hrf, hrK⟩ := mul_512 t hfin hab
  have hfl := floor512 t r hrK
  have hmul := r_mul hm
  have HW := Lib.hid (fun w => whole_any r w hrf (by rw [hfl]; omega) (by rw [hfl]; omega))
  rw [hfl] at HW
  have HP : Hid (fineP t = par t) := Lib.hid (by omega)
  rw [HP.out]
  clear hn HP hP hlo hhi hfin hab hm hrf hrK hfl hp1 hp2
  go_enter Tryd.func42, Tryd.ntmps42
  go_wp2_with fail
  refine (HW.out w).mono ?_
  rintro e w' ⟨rfl, rfl⟩
  go_wp2_with fail
  go_ret
  exact ⟨rfl, rfl⟩
theorem reffine_any (t : Nat) (w : World) :
    Calls Tryd.prog 22 #[.float .f64 t] w fun e w' => e = .returned (.float .f64 (fl (fineP t))) ∧ w = w' := by
  have hb := fineP_le t
  have HP := Lib.hid (fun w => parts_any t w)
  have hq := fun w => q_of (fineP t) (by omega) (by omega) w
  generalize fl (fineP t) = x at *
  generalize fineP t = p at *
  go_enter Tryd.func22, Tryd.ntmps22
  go_wp2_with fail
  refine (HP.out w).mono ?_
  rintro e w' ⟨rfl, rfl⟩
  go_wp2_with fail
  go_ret
  exact ⟨rfl, rfl⟩

end Go.Proofs.YtehlgnjbmdaakaaDoor.ClkC

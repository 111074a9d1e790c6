import Derived.Test.YtehlgnjbmdaakaaDoorRows
import Derived.Test.YtehlgnjbmdaakaaDoorLib
import Derived.Test.YtehlgnjbmdaakaaDoorFlt
import Derived.Laws.Externs
namespace Go.Proofs.YtehlgnjbmdaakaaDoor.ClkC
open Go.RowKit Go.My Flt

theorem ret_float {a b : Nat} (h : a = b) : Ending.returned (.float .f64 a) = .returned (.float .f64 b) := by rw [h]
theorem f_eq (x y : Nat) : (FloatKind.f64.format.order x y == some .eq) = (!isNaN x && !isNaN y && decide (K x = K y)) := cmp_eq x y
theorem f_ne (x y : Nat) : (FloatKind.f64.format.order x y != some .eq) = !(!isNaN x && !isNaN y && decide (K x = K y)) := by rw [← f_eq]; rfl
theorem f_lt (x y : Nat) : (FloatKind.f64.format.order x y == some .lt) = (!isNaN x && !isNaN y && decide (K x < K y)) := cmp_lt x y
theorem f_gt (x y : Nat) : (FloatKind.f64.format.order x y == some .gt) = (!isNaN x && !isNaN y && decide (K y < K x)) := cmp_gt x y
theorem f_le (x y : Nat) : (FloatKind.f64.format.order x y == some .lt || FloatKind.f64.format.order x y == some .eq) = (!isNaN x && !isNaN y && decide (K x ≤ K y)) := by
  rw [f_lt, f_eq]
  cases isNaN x <;> cases isNaN y <;> simp
  rw [Bool.eq_iff_iff]; simp; omega
theorem f_ge (x y : Nat) : (FloatKind.f64.format.order x y == some .gt || FloatKind.f64.format.order x y == some .eq) = (!isNaN x && !isNaN y && decide (K y ≤ K x)) := by
  rw [f_gt, f_eq]
  cases isNaN x <;> cases isNaN y <;> simp
  rw [Bool.eq_iff_iff]; simp; omega
theorem r_mul {x y r : Nat} (h : D.mul x y = some r) (w : World) : (binOp .mul 32 (.float .f64 x) (.float .f64 y)).run Tryd.prog w = .ok (.float .f64 r) w := run_float_arith w .mul _ .f64 x y r h
theorem r_div {x y r : Nat} (h : D.div x y = some r) (w : World) : (binOp .quo 32 (.float .f64 x) (.float .f64 y)).run Tryd.prog w = .ok (.float .f64 r) w := run_float_arith w .quo _ .f64 x y r h
theorem r_add {x y r : Nat} (h : D.add x y = some r) (w : World) : (binOp .add 32 (.float .f64 x) (.float .f64 y)).run Tryd.prog w = .ok (.float .f64 r) w := run_float_arith w .add _ .f64 x y r h
theorem r_sub {x y r : Nat} (h : D.sub x y = some r) (w : World) : (binOp .sub 32 (.float .f64 x) (.float .f64 y)).run Tryd.prog w = .ok (.float .f64 r) w := run_float_arith w .sub _ .f64 x y r h

/-- Down to a whole number. -/
theorem r_arch (x : Nat) (hx : fin x) (h0 : K x ≠ 0) (hb : (K x / (U : Int)).natAbs < 9007199254740992) (w : World) :
    (callFunc 52 #[.float .f64 x]).run Tryd.prog w = .ok (.value (.float .f64 (fl (512 * (K x / (U : Int)))))) w := by
  rw [run_callFunc_extern (e := Extern.MathFloor.toIntegral "math.archFloor" .down) Tryd.func52 (by kernel_rfl) (by kernel_rfl) (by kernel_rfl) (by kernel_rfl)]
  have hf := floor_K x hx h0 hb
  obtain ⟨s, m, e, hr⟩ := hx
  have hd : FloatKind.f64.decode x = .number s m e := hr
  rw [hr] at hf
  rw [show Extern.MathFloor.toIntegral "math.archFloor" .down #[.float .f64 x] = (fun d : Ieee.Datum => match d with
      | .nan s t => (if FloatKind.f64.format.quiet t = t then pure (.float .f64 x) else (choose (.extern "math.Floor,Ceil,Trunc,RoundToEven.signallingNaN kept" 2)) >>= fun kept => pure (.float .f64 (if kept == 1 then x else FloatKind.f64.encode (.nan s (FloatKind.f64.format.quiet t)))))
      | d => pure (.float .f64 (FloatKind.f64.encode (d.integral .down)))) (FloatKind.f64.decode x) from rfl, hd]
  simp only [hf]
  rfl
set_option maxRecDepth 100000 in
theorem floor_ok (x : Nat) (w : World) (hx : fin x) (h0 : K x ≠ 0) (hb : (K x / (U : Int)).natAbs < 9007199254740992) :
    Calls Tryd.prog 41 #[.float .f64 x] w fun e w' => e = .returned (.float .f64 (fl (512 * (K x / (U : Int))))) ∧ w = w' := by
  have hr := r_arch x hx h0 hb
  clear hx h0 hb
  generalize fl (512 * (K x / (U : Int))) = r at *
  go_enter Tryd.func41, Tryd.ntmps41
  go_wp2_with fail
  go_ret
  exact ⟨rfl, rfl⟩
abbrev nanW : Nat := 9221120237041090561
theorem isNaN_nanW : isNaN nanW = true := by decide
theorem nan_any (w : World) : Calls Tryd.prog 46 #[] w fun e w' => e = .returned (.float .f64 nanW) ∧ w = w' := by
  have hr : ∀ w, (callFunc 66 #[.int .u64 9221120237041090561]).run Tryd.prog w = .ok (.value (.float .f64 nanW)) w := fun w => by
    rw [run_callFunc_extern (e := Extern.MathFloatBits.float64frombits) Tryd.func66 (by kernel_rfl) (by kernel_rfl) (by kernel_rfl) (by kernel_rfl)]
    rfl
  go_enter Tryd.func46, Tryd.ntmps46
  go_wp2_with fail
  go_ret
  exact ⟨rfl, rfl⟩

theorem k_lo : fl (-4398046511104) = 13979173243358019584 := by decide +kernel
theorem k_hi : fl 4398046511104 = 4755801206503243776 := by decide +kernel
theorem k_u : fl 2199023255040 = 4751297606873776128 := by decide +kernel
theorem K_lo : K 13979173243358019584 = -4398046511104 * (Q : Int) := by rw [← k_lo]; exact K_fl _ (by decide)
theorem K_hi : K 4755801206503243776 = 4398046511104 * (Q : Int) := by rw [← k_hi]; exact K_fl _ (by decide)
theorem K_u : K 4751297606873776128 = 2199023255040 * (Q : Int) := by rw [← k_u]; exact K_fl _ (by decide)
theorem K_0 : K 0 = 0 := by have := K_fl 0 (by decide); rw [fl_zero] at this; omega
theorem n_lo : isNaN 13979173243358019584 = false := by rw [← k_lo]; exact isNaN_fl _ (by decide)
theorem n_hi : isNaN 4755801206503243776 = false := by rw [← k_hi]; exact isNaN_fl _ (by decide)
theorem n_u : isNaN 4751297606873776128 = false := by rw [← k_u]; exact isNaN_fl _ (by decide)
theorem n_0 : isNaN 0 = false := by decide

theorem self_nan {t : Nat} (h : isNaN t = true) : (FloatKind.f64.format.order t t != some .eq) = true := by rw [f_ne, h]; rfl
theorem self_num {t : Nat} (h : isNaN t = false) : (FloatKind.f64.format.order t t != some .eq) = false := by rw [f_ne, h]; simp
theorem self_nan' {t : Nat} (h : isNaN t = true) : (FloatKind.f64.format.order t t == some .eq) = false := by rw [f_eq, h]; rfl
theorem self_num' {t : Nat} (h : isNaN t = false) : (FloatKind.f64.format.order t t == some .eq) = true := by rw [f_eq, h]; simp

noncomputable def fineP (t : Nat) : Int := if isNaN t then 0 else max (-4398046511104) (min 4398046511104 (par t))
theorem fineP_le (t : Nat) : -4398046511104 ≤ fineP t ∧ fineP t ≤ 4398046511104 := by unfold fineP; split <;> omega

theorem in_range {t : Nat} (hn : isNaN t = false) (h1 : -4398046511104 * (Q : Int) ≤ K t) (h2 : K t ≤ 4398046511104 * (Q : Int)) : fin t ∧ (K t).natAbs ≤ 2 ^ 43 * Q ∧ -4398046511104 ≤ par t ∧ par t ≤ 4398046511104 := by
  have hQ := Q_pos
  have hbig : 4398046511104 * (Q : Int) < (big : Int) := by
    have h : 4398046511104 * Q < big := by
      unfold Q big
      rw [show (4398046511104 : Nat) = 2 ^ 42 from rfl, ← Nat.pow_add]
      exact Nat.pow_lt_pow_right (by omega) (by rw [e1065_eq, e2200_eq]; omega)
    have := Int.ofNat_lt.2 h
    rwa [Int.natCast_mul] at this
  refine ⟨fin_of_K hn (by omega) (by omega), ?_, (ge_iff _ _).1 h1, par_le h2⟩
  rw [show (2 : Nat) ^ 43 = 8796093022208 from rfl]
  omega

set_option maxRecDepth 100000 in
theorem fine_any (t : Nat) (w : World) :
    Calls Tryd.prog 21 #[.float .f64 t] w fun e w' => e = .returned (.float .f64 (fl (fineP t))) ∧ w = w' := by
  cases hn : isNaN t
  case true =>
    have e1 := self_nan hn
    have HP : Hid (fl (fineP t) = 0) := Lib.hid (by unfold fineP; rw [hn]; exact fl_zero)
    rw [HP.out]
    clear hn HP
    go_enter Tryd.func21, Tryd.ntmps21
    go_wp2_with fail
    go_ret
    exact ⟨rfl, rfl⟩
  have e1 := self_num hn
  have hP : fineP t = max (-4398046511104) (min 4398046511104 (par t)) := by unfold fineP; rw [hn]; rfl
  by_cases hz : K t = 0
  · have e2 : (FloatKind.f64.format.order t 0 == some .eq) = true := by rw [f_eq, hn, n_0, K_0, decide_eq_true hz]; rfl
    have HP : Hid (fl (fineP t) = 0) := Lib.hid (by rw [hP]; unfold par; rw [hz, Int.zero_ediv]; exact fl_zero)
    rw [HP.out]
    clear hn HP hP hz
    go_enter Tryd.func21, Tryd.ntmps21
    go_wp2_with fail
    go_ret
    exact ⟨rfl, rfl⟩
  have e2 : (FloatKind.f64.format.order t 0 == some .eq) = false := by rw [f_eq, hn, n_0, K_0, decide_eq_false hz]; rfl
  by_cases hlo : K t < -4398046511104 * (Q : Int)
  · have e3 : (FloatKind.f64.format.order t 13979173243358019584 == some .lt) = true := by rw [f_lt, hn, n_lo, K_lo, decide_eq_true hlo]; rfl
    have HP : Hid (fl (fineP t) = 13979173243358019584) := Lib.hid (by
      have := (lt_iff t _).1 hlo
      rw [hP, ← k_lo, show max (-4398046511104) (min 4398046511104 (par t)) = -4398046511104 by omega])
    rw [HP.out]
    clear hn HP hP hz hlo
    go_enter Tryd.func21, Tryd.ntmps21
    go_wp2_with fail
    go_ret
    exact ⟨rfl, rfl⟩
  have e3 : (FloatKind.f64.format.order t 13979173243358019584 == some .lt) = false := by rw [f_lt, hn, n_lo, K_lo, decide_eq_false hlo]; rfl
  by_cases hhi : 4398046511104 * (Q : Int) < K t
  · have e4 : (FloatKind.f64.format.order t 4755801206503243776 == some .gt) = true := by rw [f_gt, hn, n_hi, K_hi, decide_eq_true hhi]; rfl
    have HP : Hid (fl (fineP t) = 4755801206503243776) := Lib.hid (by
      have := le_par hhi
      rw [hP, ← k_hi, show max (-4398046511104) (min 4398046511104 (par t)) = 4398046511104 by omega])
    rw [HP.out]
    clear hn HP hP hz hlo hhi
    go_enter Tryd.func21, Tryd.ntmps21
    go_wp2_with fail
    go_ret
    exact ⟨rfl, rfl⟩
  have e4 : (FloatKind.f64.format.order t 4755801206503243776 == some .gt) = false := by rw [f_gt, hn, n_hi, K_hi, decide_eq_false hhi]; rfl
  obtain ⟨hfin, hab, hp1, hp2⟩ := in_range hn (by omega) (by omega)
  obtain ⟨r, hm, hrf, hrK⟩ := mul_512 t hfin hab
  have hfl := floor512 t r hrK
  have hmul := r_mul hm
  have hdiv := r_div (fl_div (par t) (by omega))
  have HF : Hid (∀ w, Calls Tryd.prog 41 #[.float .f64 r] w fun e w' => e = .returned (.float .f64 (fl (512 * par t))) ∧ w = w') := Lib.hid (fun w => by
    have := floor_ok r w hrf (by rw [hrK]; omega) (by rw [hfl]; omega)
    rw [hfl] at this
    exact this)
  have HP : Hid (fineP t = par t) := Lib.hid (by rw [hP]; omega)
  rw [HP.out]
  clear hn HP hP hz hlo hhi hfin hab hm hrf hrK hfl hp1 hp2
  go_enter Tryd.func21, Tryd.ntmps21
  go_wp2_with fail
  refine (HF.out w).mono ?_
  rintro e w' ⟨rfl, rfl⟩
  clear HF
  generalize fl (512 * par t) = q at *
  go_wp2_with fail
  go_ret
  exact ⟨rfl, rfl⟩
end Go.Proofs.YtehlgnjbmdaakaaDoor.ClkC

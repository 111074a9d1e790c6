import Derived.Test.YtilfmmjjiiabgaaRows
import Derived.Test.YtilfmmjjiiabgaaLib
import Derived.Test.YtilfmmjjiiabgaaFlt
import Derived.Laws.Externs
namespace Go.Proofs.Ytilfmmjjiiabgaa.ClkC
open Go.RowKit Go.My Flt

theorem ret_float {a b : Nat} (h : a = b) : Ending.returned (.float .f64 a) = .returned (.float .f64 b) := by rw [h]
theorem f_eq (x y : Nat) : (FloatKind.f64.format.order x y == some .eq) = (!isNaN x && !isNaN y && decide (K x = K y)) := cmp_eq x y
theorem f_ne (x y : Nat) : (FloatKind.f64.format.order x y != some .eq) = !(!isNaN x && !isNaN y && decide (K x = K y)) := by rw [← f_eq]; rfl
theorem f_lt (x y : Nat) : (FloatKind.f64.format.order x y == some .lt) = (!isNaN x && !isNaN y && decide (K x < K y)) := cmp_lt x y
theorem f_gt (x y : Nat) : (FloatKind.f64.format.order x y == some .gt) = (!isNaN x && !isNaN y && decide (K y < K x)) := cmp_gt x y
theorem f_ge (x y : Nat) : (FloatKind.f64.format.order x y == some .gt || FloatKind.f64.format.order x y == some .eq) = (!isNaN x && !isNaN y && decide (K y ≤ K x)) := by
  rw [f_gt, f_eq]
  cases isNaN x <;> cases isNaN y <;> simp
  rw [Bool.eq_iff_iff]; simp; omega
abbrev nanW : Nat := 9221120237041090561
theorem isNaN_nanW : isNaN nanW = true := by decide
theorem nan_any (w : World) : Calls Try.prog 42 #[] w fun e w' => e = .returned (.float .f64 nanW) ∧ w = w' := by
  have hr : ∀ w, (callFunc 49 #[.int .u64 9221120237041090561]).run Try.prog w = .ok (.value (.float .f64 nanW)) w := fun w => by
    rw [run_callFunc_extern (e := Extern.MathFloatBits.float64frombits) Try.func49 (by kernel_rfl) (by kernel_rfl) (by kernel_rfl) (by kernel_rfl)]
    rfl
  go_enter Try.func42, Try.ntmps42
  go_wp2_with fail
  go_ret
  exact ⟨rfl, rfl⟩

theorem k_u : fl 2199023255040 = 4751297606873776128 := by decide +kernel
theorem K_u : K 4751297606873776128 = 2199023255040 * (Q : Int) := by rw [← k_u]; exact K_fl _ (by decide)
theorem K_0 : K 0 = 0 := by have := K_fl 0 (by decide); rw [fl_zero] at this; omega
theorem n_u : isNaN 4751297606873776128 = false := by rw [← k_u]; exact isNaN_fl _ (by decide)
theorem n_0 : isNaN 0 = false := by decide

theorem self_nan {t : Nat} (h : isNaN t = true) : (FloatKind.f64.format.order t t != some .eq) = true := by rw [f_ne, h]; rfl
theorem self_num {t : Nat} (h : isNaN t = false) : (FloatKind.f64.format.order t t != some .eq) = false := by rw [f_ne, h]; simp
theorem in_range {t : Nat} (hn : isNaN t = false) (h1 : -4398046511104 * (Q : Int) ≤ K t) (h2 : K t ≤ 4398046511104 * (Q : Int)) : fin t ∧ (K t).natAbs ≤ 2 ^ 43 * Q ∧ -4398046511104 ≤ par t ∧ par t ≤ 4398046511104 := by
  have hQ := Q_pos
  have hbig : 4398046511104 * (Q : Int) < (big : Int) := by
    have h : 4398046511104 * Q < big := by
      unfold Q big
      rw [show (4398046511104 : Nat) = 2 ^ 42 from rfl, ← Nat.pow_add]
      exact Nat.pow_lt_pow_right (by omega) (by rw [e1065_eq, e2200_eq]; omega)
    have := Int.ofNat_lt.2 h
    rwa [Int.natCast_mul] at this
  refine ⟨fin_of_K hn (by omega) (by omega), ?_, (ge_iff _ _).1 h1, par_le h2⟩
  rw [show (2 : Nat) ^ 43 = 8796093022208 from rfl]
  omega

end Go.Proofs.Ytilfmmjjiiabgaa.ClkC

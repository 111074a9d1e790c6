import Derived.Test.YtilfmmjjiiabgaaClkT
import Derived.Lib.Bytealg
import Derived.Test.YtilfmmjjiiabgaaClkG
namespace Go.Proofs.Ytilfmmjjiiabgaa.ClkC
open Go.RowKit Go.My Flt NumMath Txt Clk

theorem whole_any (x : Nat) (w : World) (hf : fin x) (hb1 : -4398046511105 ≤ K x / (U : Int)) (hb2 : K x / (U : Int) ≤ 4398046511105) :
    Calls Try.prog 38 #[.float .f64 x] w fun e w' => e = .returned (.int .i64 (K x / (U : Int))) ∧ w = w' := by
  have hU := U_pos
  have hw := whole_eq (K x)
  have hn : -4398046511106 ≤ Int.tdiv (K x) (U : Int) ∧ Int.tdiv (K x) (U : Int) ≤ 4398046511106 := by
    split at hw <;> omega
  obtain ⟨n, hnn⟩ : ∃ n, n = Int.tdiv (K x) (U : Int) := ⟨_, rfl⟩
  rw [← hnn] at hn hw
  obtain ⟨hn1, hn2⟩ := hn
  have hc := r_int hf hnn.symm (by omega) (by omega)
  have hfo : floatOfInt .f64 n = fl (512 * n) := floatOfInt_fl n (by omega)
  have hgt : (FloatKind.f64.format.order (floatOfInt .f64 n) x == some .gt) = decide (K x < n * (U : Int)) := by
    rw [hfo, f_gt, isNaN_fl _ (by omega), hf.notNaN, K_fl _ (by omega)]
    have : 512 * n * (Q : Int) = n * (U : Int) := by unfold U; rw [Int.natCast_mul, Int.mul_comm 512 n, Int.mul_assoc]; rfl
    rw [this]; rfl
  rw [← hw]
  clear hw hnn hb1 hb2 hf hfo
  by_cases hlt : K x < n * (U : Int)
  · rw [decide_eq_true hlt] at hgt
    rw [if_pos hlt]
    clear hlt hU
    go_enter Try.func38, Try.ntmps38
    go_wp2_with fail
    go_ret
    exact ⟨rfl, rfl⟩
  · rw [decide_eq_false hlt] at hgt
    rw [if_neg hlt]
    clear hlt hU
    go_enter Try.func38, Try.ntmps38
    go_wp2_with fail
    go_ret
    exact ⟨rfl, rfl⟩

end Go.Proofs.Ytilfmmjjiiabgaa.ClkC

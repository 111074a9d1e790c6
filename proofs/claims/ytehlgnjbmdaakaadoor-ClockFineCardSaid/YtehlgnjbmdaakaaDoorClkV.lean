import Derived.Test.YtehlgnjbmdaakaaDoorClkH
namespace Go.Proofs.YtehlgnjbmdaakaaDoor.ClkC
open Go.RowKit Go.My Flt NumMath Txt Clk

theorem whole_any (x : Nat) (w : World) (hf : fin x) (hb1 : -4398046511105 ≤ K x / (U : Int)) (hb2 : K x / (U : Int) ≤ 4398046511105) :
    Calls Tryd.prog 54 #[.float .f64 x] w fun e w' => e = .returned (.int .i64 (K x / (U : Int))) ∧ w = w' := by
  have hU := U_pos
  have hw := whole_eq (K x)
  have hn : -4398046511106 ≤ Int.tdiv (K x) (U : Int) ∧ Int.tdiv (K x) (U : Int) ≤ 4398046511106 := by
    split at hw <;> omega
  obtain ⟨n, hnn⟩ : ∃ n, n = Int.tdiv (K x) (U : Int) := ⟨_, rfl⟩
  rw [← hnn] at hn hw
  obtain ⟨hn1, hn2⟩ := hn
  have hc := r_int hf hnn.symm (by omega) (by omega)
  have hfo : floatOfInt .f64 n = fl (512 * n) := floatOfInt_fl n (by omega)
  have hgt : (FloatKind.f64.format.order (floatOfInt .f64 n) x == some .gt) = decide (K x < n * (U : Int)) := by
    rw [hfo, f_gt, isNaN_fl _ (by omega), hf.notNaN, K_fl _ (by omega)]
    have : 512 * n * (Q : Int) = n * (U : Int) := by unfold U; rw [Int.natCast_mul, Int.mul_comm 512 n, Int.mul_assoc]; rfl
    rw [this]; rfl
  rw [← hw]
  clear hw hnn hb1 hb2 hf hfo
  by_cases hlt : K x < n * (U : Int)
  · rw [decide_eq_true hlt] at hgt
    rw [if_pos hlt]
    clear hlt hU
    go_enter Tryd.func54, Tryd.ntmps54
    go_wp2_with fail
    go_ret
    exact ⟨rfl, rfl⟩
  · rw [decide_eq_false hlt] at hgt
    rw [if_neg hlt]
    clear hlt hU
    go_enter Tryd.func54, Tryd.ntmps54
    go_wp2_with fail
    go_ret
    exact ⟨rfl, rfl⟩

/-- The law's own 'same'. -/
theorem same_fl (p : Int) (w : World) (h : p.natAbs < 9007199254740992) :
    Calls Tryd.prog 20 #[.float .f64 (fl p), .float .f64 (fl p)] w fun e w' => e = .returned (.bool true) ∧ w = w' := by
  have e1 := self_num (isNaN_fl p h)
  have e2 := self_num' (isNaN_fl p h)
  by_cases h0 : p = 0
  · subst h0
    rw [fl_zero] at *
    have hd : ∀ w, (binOp .quo 32 (.float .f64 4607182418800017408) (.float .f64 0)).run Tryd.prog w = .ok (.float .f64 9218868437227405312) w := fun w => r_div (by decide +kernel) w
    have e3 : (FloatKind.f64.format.order 0 0 != some .eq) = false := by decide
    have e4 : (FloatKind.f64.format.order 9218868437227405312 9218868437227405312 == some .eq) = true := by decide
    go_enter Tryd.func20, Tryd.ntmps20
    go_wp2_with fail
    go_ret
    exact ⟨rfl, rfl⟩
  · have hQ := Q_pos
    have hne : ¬ p * (Q : Int) = 0 := fun h => by
      rcases Int.mul_eq_zero.1 h with h | h
      · exact h0 h
      · omega
    have e3 : (FloatKind.f64.format.order (fl p) 0 != some .eq) = true := by
      rw [f_ne, isNaN_fl p h, n_0, K_0, K_fl p h, decide_eq_false hne]; rfl
    clear h0 hne hQ
    generalize fl p = f at *
    go_enter Tryd.func20, Tryd.ntmps20
    go_wp2_with fail
    go_ret
    exact ⟨rfl, rfl⟩
theorem same_nan (a b : Nat) (w : World) (ha : isNaN a = true) (hb : isNaN b = true) :
    Calls Tryd.prog 20 #[.float .f64 a, .float .f64 b] w fun e w' => e = .returned (.bool true) ∧ w = w' := by
  have e1 := self_nan ha
  have e2 := self_nan hb
  clear ha hb
  go_enter Tryd.func20, Tryd.ntmps20
  go_wp2_with fail
  go_ret
  exact ⟨rfl, rfl⟩
end Go.Proofs.YtehlgnjbmdaakaaDoor.ClkC

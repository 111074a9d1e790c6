/-
  Package effort: efforts as numbers, levels, the order.
-/
import Derived.Test.YtdilhbodokbnoaaDoorRows
import Derived.Test.YtdilhbodokbnoaaDoorLib
import Derived.Test.YtdilhbodokbnoaaDoorFlt
import Derived.Laws.Externs
namespace Go.Proofs.YtdilhbodokbnoaaDoor.EfC
open Go.RowKit Go.My Flt

theorem f_eq (x y : Nat) : (FloatKind.f64.format.order x y == some .eq) = (!isNaN x && !isNaN y && decide (K x = K y)) := cmp_eq x y
theorem f_ne (x y : Nat) : (FloatKind.f64.format.order x y != some .eq) = !(!isNaN x && !isNaN y && decide (K x = K y)) := by rw [← f_eq]; rfl
theorem f_lt (x y : Nat) : (FloatKind.f64.format.order x y == some .lt) = (!isNaN x && !isNaN y && decide (K x < K y)) := cmp_lt x y
theorem f_gt (x y : Nat) : (FloatKind.f64.format.order x y == some .gt) = (!isNaN x && !isNaN y && decide (K y < K x)) := cmp_gt x y
theorem f_ge (x y : Nat) : (FloatKind.f64.format.order x y == some .gt || FloatKind.f64.format.order x y == some .eq) = (!isNaN x && !isNaN y && decide (K y ≤ K x)) := by
  rw [f_gt, f_eq]
  cases isNaN x <;> cases isNaN y <;> simp
  rw [Bool.eq_iff_iff]; simp; omega
theorem self_nan {t : Nat} (h : isNaN t = true) : (FloatKind.f64.format.order t t != some .eq) = true := by rw [f_ne, h]; rfl
theorem self_num {t : Nat} (h : isNaN t = false) : (FloatKind.f64.format.order t t != some .eq) = false := by rw [f_ne, h]; simp

theorem U_Q : (U : Int) = 512 * (Q : Int) := by unfold U; rw [Int.natCast_mul]; rfl
theorem K_whole (n : Int) (h : (512 * n).natAbs < 9007199254740992) : K (fl (512 * n)) = n * (U : Int) := by
  rw [K_fl _ h, U_Q, Int.mul_comm 512 n, Int.mul_assoc]
theorem k_1 : fl (512 * 1) = 4607182418800017408 := by decide +kernel
theorem k_6 : fl (512 * 6) = 4618441417868443648 := by decide +kernel
theorem k_9 : fl (512 * 9) = 4621256167635550208 := by decide +kernel
theorem K_1 : K 4607182418800017408 = (U : Int) := by rw [← k_1, K_whole _ (by decide)]; omega
theorem K_6 : K 4618441417868443648 = 6 * (U : Int) := by rw [← k_6, K_whole _ (by decide)]
theorem K_9 : K 4621256167635550208 = 9 * (U : Int) := by rw [← k_9, K_whole _ (by decide)]
theorem K_0 : K 0 = 0 := by have := K_fl 0 (by decide); rw [fl_zero] at this; omega
theorem n_1 : isNaN 4607182418800017408 = false := by decide
theorem n_6 : isNaN 4618441417868443648 = false := by decide
theorem n_9 : isNaN 4621256167635550208 = false := by decide
theorem n_0 : isNaN 0 = false := by decide

/-- An effort as a number: its word. -/
def num (x : Nat) : Nat := if isNaN x then 4618441417868443648 else x
theorem num_nan (x : Nat) : isNaN (num x) = false := by
  unfold num
  cases h : isNaN x
  · simpa using h
  · exact n_6
theorem num_of {x : Nat} (h : isNaN x = false) : num x = x := by unfold num; rw [h]; rfl
theorem num_six {x : Nat} (h : isNaN x = true) : num x = 4618441417868443648 := by unfold num; rw [h]; rfl

/-- The level. -/
noncomputable def lv (x : Nat) : Nat := if K (num x) < (U : Int) then 0 else if 9 * (U : Int) ≤ K (num x) then 9 else (K (num x) / (U : Int)).toNat
theorem lv_lo {x : Nat} (h : K (num x) < (U : Int)) : lv x = 0 := by unfold lv; rw [if_pos h]
theorem lv_hi {x : Nat} (h : 9 * (U : Int) ≤ K (num x)) : lv x = 9 := by
  have := U_pos
  unfold lv; rw [if_neg (by omega), if_pos h]
theorem lv_mid {x : Nat} (h1 : (U : Int) ≤ K (num x)) (h2 : K (num x) < 9 * (U : Int)) : (lv x : Int) = K (num x) / (U : Int) ∧ 1 ≤ lv x ∧ lv x ≤ 8 := by
  have hU := U_pos
  have e1 : 1 ≤ K (num x) / (U : Int) := (Int.le_ediv_iff_mul_le hU).2 (by omega)
  have e2 : K (num x) / (U : Int) < 9 := (Int.ediv_lt_iff_lt_mul hU).2 h2
  have e : lv x = (K (num x) / (U : Int)).toNat := by unfold lv; rw [if_neg (by omega), if_neg (by omega)]
  omega
theorem lv_le (x : Nat) : lv x ≤ 9 := by
  by_cases h1 : K (num x) < (U : Int)
  · rw [lv_lo h1]; omega
  · by_cases h2 : 9 * (U : Int) ≤ K (num x)
    · rw [lv_hi h2]; omega
    · have := (lv_mid (x := x) (by omega) (by omega)).2.2; omega
/-- lv is n wherever the number lies from n to n + 1. -/
theorem lv_at {x : Nat} {n : Nat} (hn : n ≤ 8) (h1 : (n : Int) * (U : Int) ≤ K (num x)) (h2 : K (num x) < ((n : Int) + 1) * (U : Int)) : lv x = n := by
  have hU := U_pos
  by_cases h0 : n = 0
  · subst h0
    exact lv_lo (by simpa using h2)
  · have a1 : 1 * (U : Int) ≤ (n : Int) * (U : Int) := Int.mul_le_mul_of_nonneg_right (by omega) (by omega)
    have a2 : ((n : Int) + 1) * (U : Int) ≤ 9 * (U : Int) := Int.mul_le_mul_of_nonneg_right (by omega) (by omega)
    have h := (lv_mid (x := x) (by omega) (by omega)).1
    have e : K (num x) / (U : Int) = n := by
      have b1 : (n : Int) ≤ K (num x) / (U : Int) := (Int.le_ediv_iff_mul_le hU).2 h1
      have b2 : K (num x) / (U : Int) < (n : Int) + 1 := (Int.ediv_lt_iff_lt_mul hU).2 h2
      omega
    omega
/-- Less effort has no higher level. -/
theorem lv_mono {x y : Nat} (h : K (num x) ≤ K (num y)) : lv x ≤ lv y := by
  have hU := U_pos
  by_cases a1 : K (num x) < (U : Int)
  · rw [lv_lo a1]; omega
  by_cases b2 : 9 * (U : Int) ≤ K (num y)
  · rw [lv_hi b2]; exact lv_le x
  have hx := lv_mid (x := x) (by omega) (by omega)
  have hy := lv_mid (x := y) (by omega) (by omega)
  have := Int.ediv_le_ediv hU h
  omega

theorem fin_of {x : Nat} (hn : isNaN x = false) (h1 : (U : Int) ≤ K x) (h2 : K x < 9 * (U : Int)) : fin x := by
  have hU := U_pos
  have hb : 9 * (U : Int) ≤ (big : Int) := by
    have h : 9 * U ≤ big := by
      have : 16 * U ≤ big := by
        rw [U_eq]
        unfold big
        rw [show (16 : Nat) = 2 ^ 4 from rfl, ← Nat.pow_add]
        exact Nat.pow_le_pow_right (by omega) (by rw [e1074_eq, e2200_eq]; omega)
      omega
    have := Int.ofNat_le.2 h
    rwa [Int.natCast_mul] at this
  exact fin_of_K hn (by omega) (by omega)
theorem r_int {x : Nat} (hn : isNaN x = false) (h1 : (U : Int) ≤ K x) (h2 : K x < 9 * (U : Int)) (w : World) :
    (convert 22 3 (.float .f64 x)).run Tryd.prog w = .ok (.int .i64 (lv x : Int)) w := by
  have hx := fin_of hn h1 h2
  have hU := U_pos
  have h := lv_mid (x := x) (by rw [num_of hn]; exact h1) (by rw [num_of hn]; exact h2)
  rw [num_of hn] at h
  refine run_convert_float_int w _ _ .f64 .i64 x _ (by kernel_rfl) Tryd.underlying3 ?_
  have ht : (FloatKind.f64.decode x).toInt .zero = some (lv x : Int) := by
    rw [h.1, ← Int.tdiv_eq_ediv_of_nonneg (by omega)]
    exact toInt_K x hx
  unfold floatToIntVal
  simp only [ht]
  rw [if_pos ⟨(show (-9223372036854775808 : Int) ≤ _ by omega), (show _ ≤ (9223372036854775807 : Int) by omega)⟩]

theorem number_any (x : Nat) (w : World) :
    Calls Tryd.prog 14 #[.float .f64 x] w fun e w' => e = .returned (.float .f64 (num x)) ∧ w = w' := by
  cases hn : isNaN x
  case true =>
    have e1 := self_nan hn
    rw [num_six hn]
    clear hn
    go_enter Tryd.func14, Tryd.ntmps14
    go_wp2_with fail
    go_ret
    exact ⟨rfl, rfl⟩
  case false =>
    have e1 := self_num hn
    rw [num_of hn]
    clear hn
    go_enter Tryd.func14, Tryd.ntmps14
    go_wp2_with fail
    go_ret
    exact ⟨rfl, rfl⟩
theorem lt_1 {x : Nat} (h : isNaN x = false) : (FloatKind.f64.format.order x 4607182418800017408 == some .lt) = decide (K x < (U : Int)) := by rw [f_lt, h, n_1, K_1]; rfl
theorem ge_9 {x : Nat} (h : isNaN x = false) : (FloatKind.f64.format.order x 4621256167635550208 == some .gt || FloatKind.f64.format.order x 4621256167635550208 == some .eq) = decide (9 * (U : Int) ≤ K x) := by rw [f_ge, h, n_9, K_9]; rfl
/-- How a number's level is found: three ways. -/
theorem three (y : Nat) (h : isNaN y = false) (L : Nat) (hL : L = (if K y < (U : Int) then 0 else if 9 * (U : Int) ≤ K y then 9 else (K y / (U : Int)).toNat)) :
    ((FloatKind.f64.format.order y 4607182418800017408 == some .lt) = true ∧ L = 0) ∨
    ((FloatKind.f64.format.order y 4607182418800017408 == some .lt) = false ∧ (FloatKind.f64.format.order y 4621256167635550208 == some .gt || FloatKind.f64.format.order y 4621256167635550208 == some .eq) = true ∧ L = 9) ∨
    ((FloatKind.f64.format.order y 4607182418800017408 == some .lt) = false ∧ (FloatKind.f64.format.order y 4621256167635550208 == some .gt || FloatKind.f64.format.order y 4621256167635550208 == some .eq) = false ∧
      ∀ w, (convert 22 3 (.float .f64 y)).run Tryd.prog w = .ok (.int .i64 (L : Int)) w) := by
  have hl : L = lv y := by unfold lv; rw [num_of h]; exact hL
  rw [lt_1 h, ge_9 h]
  by_cases h1 : K y < (U : Int)
  · exact .inl ⟨decide_eq_true h1, by rw [hl]; exact lv_lo (by rw [num_of h]; exact h1)⟩
  by_cases h2 : 9 * (U : Int) ≤ K y
  · exact .inr (.inl ⟨decide_eq_false h1, decide_eq_true h2, by rw [hl]; exact lv_hi (by rw [num_of h]; exact h2)⟩)
  · exact .inr (.inr ⟨decide_eq_false h1, decide_eq_false h2, by rw [hl]; exact r_int h (by omega) (by omega)⟩)
theorem level_any (x : Nat) (w : World) :
    Calls Tryd.prog 7 #[.float .f64 x] w fun e w' => e = .returned (.int .i64 (lv x : Int)) ∧ w = w' := by
  have HN := Lib.hid (number_any x w)
  have h3 := three (num x) (num_nan x) (lv x) rfl
  generalize lv x = L at *
  generalize num x = y at *
  rcases h3 with ⟨e1, rfl⟩ | ⟨e1, e2, rfl⟩ | ⟨e1, e2, e3⟩
  all_goals
    go_enter Tryd.func7, Tryd.ntmps7
    go_wp2_with fail
    refine HN.out.mono ?_
    rintro e w1 ⟨rfl, rfl⟩
    go_wp2_with fail
    go_ret
    exact ⟨rfl, rfl⟩
theorem rlevel_any (x : Nat) (w : World) :
    Calls Tryd.prog 8 #[.float .f64 x] w fun e w' => e = .returned (.int .i64 (lv x : Int)) ∧ w = w' := by
  cases hn : isNaN x
  case true =>
    have e1 := self_nan hn
    have hL : lv x = 6 := lv_at (n := 6) (by omega) (by rw [num_six hn, K_6]; simp) (by rw [num_six hn, K_6]; have := U_pos; simp; omega)
    rw [hL]
    clear hn hL
    go_enter Tryd.func8, Tryd.ntmps8
    go_wp2_with fail
    go_ret
    exact ⟨rfl, rfl⟩
  case false =>
    have e0 := self_num hn
    have h3 := three x hn (lv x) (by unfold lv; rw [num_of hn])
    clear hn
    generalize lv x = L at *
    rcases h3 with ⟨e1, rfl⟩ | ⟨e1, e2, rfl⟩ | ⟨e1, e2, e3⟩
    all_goals
      go_enter Tryd.func8, Tryd.ntmps8
      go_wp2_with fail
      go_ret
      exact ⟨rfl, rfl⟩
/-- The order of efforts. -/
noncomputable def ls (a b : Nat) : Bool := decide (K (num a) < K (num b))
theorem lt_num (a b : Nat) : (FloatKind.f64.format.order (num a) (num b) == some .lt) = ls a b := by rw [f_lt, num_nan, num_nan]; rfl
theorem less_any (a b : Nat) (w : World) :
    Calls Tryd.prog 11 #[.float .f64 a, .float .f64 b] w fun e w' => e = .returned (.bool (ls a b)) ∧ w = w' := by
  have HA := Lib.hid (fun w => number_any a w)
  have HB := Lib.hid (fun w => number_any b w)
  have e1 := lt_num a b
  generalize ls a b = r at *
  generalize num a = x at *
  generalize num b = y at *
  go_enter Tryd.func11, Tryd.ntmps11
  go_wp2_with fail
  refine (HA.out w).mono ?_
  rintro e w1 ⟨rfl, rfl⟩
  go_wp2_with fail
  refine (HB.out w).mono ?_
  rintro e w1 ⟨rfl, rfl⟩
  go_wp2_with fail
  go_ret
  exact ⟨rfl, rfl⟩
theorem rless_any (a b : Nat) (w : World) :
    Calls Tryd.prog 12 #[.float .f64 a, .float .f64 b] w fun e w' => e = .returned (.bool (ls a b)) ∧ w = w' := by
  have e1 := lt_num a b
  generalize ls a b = r at *
  cases ha : isNaN a <;> cases hb : isNaN b
  · have a1 := self_num ha
    have b1 := self_num hb
    rw [num_of ha, num_of hb] at e1
    clear ha hb
    go_enter Tryd.func12, Tryd.ntmps12
    go_wp2_with fail
    go_ret
    exact ⟨rfl, rfl⟩
  · have a1 := self_num ha
    have b1 := self_nan hb
    rw [num_of ha, num_six hb] at e1
    clear ha hb
    go_enter Tryd.func12, Tryd.ntmps12
    go_wp2_with fail
    go_ret
    exact ⟨rfl, rfl⟩
  · have a1 := self_nan ha
    have b1 := self_num hb
    rw [num_six ha, num_of hb] at e1
    clear ha hb
    go_enter Tryd.func12, Tryd.ntmps12
    go_wp2_with fail
    go_ret
    exact ⟨rfl, rfl⟩
  · have a1 := self_nan ha
    have b1 := self_nan hb
    rw [num_six ha, num_six hb] at e1
    clear ha hb
    go_enter Tryd.func12, Tryd.ntmps12
    go_wp2_with fail
    go_ret
    exact ⟨rfl, rfl⟩

/-- What 0/0 gives. -/
theorem nan_cut (t : Nat) : isNaN ((t % 2) * 2 ^ 63 + 0x7ff0000000000000 + 1 + (t / 2) % (2 ^ 52 - 1)) = true := by
  have h1 : t % 2 < 2 := Nat.mod_lt _ (by omega)
  have h2 : (t / 2) % (2 ^ 52 - 1) < 2 ^ 52 - 1 := Nat.mod_lt _ (by omega)
  generalize t % 2 = s at *
  generalize (t / 2) % (2 ^ 52 - 1) = k at *
  have e : s * 2 ^ 63 + 0x7ff0000000000000 + 1 + k = D.word (s == 1) (9218868437227405313 + k) := by
    unfold Ieee.Format.word
    rw [sign_eq]
    have : s = 0 ∨ s = 1 := by omega
    rcases this with rfl | rfl
    · simp <;> omega
    · simp <;> omega
  unfold isNaN
  rw [e, read_word _ _ (by omega), if_neg (by omega), if_neg (by omega), if_neg (by omega)]
  rfl
theorem r_nan (w : World) : ∃ r, (binOp .quo 22 (.float .f64 0) (.float .f64 0)).run Tryd.prog w = .ok (.float .f64 r) w.drew ∧ isNaN r = true := by
  have hd : FloatKind.f64.format.div 0 0 = none := by decide
  refine ⟨_, ?_, nan_cut (w.tape w.drawn (.nanBits .f64 0 0))⟩
  simp [binOp, Op.floatArith, hd, Question.forced, Question.cut]
theorem none_any (w : World) :
    Calls Tryd.prog 13 #[] w fun e w' => (∃ r, e = .returned (.float .f64 r) ∧ isNaN r = true) ∧ Below w.heap.size w w' := by
  obtain ⟨r, hr, hn⟩ := r_nan w
  have HN := Lib.hid hn
  clear hn
  go_enter Tryd.func13, Tryd.ntmps13
  go_wp2_with fail
  go_ret
  exact ⟨⟨r, rfl, HN.out⟩, (Below.refl _ _).drew⟩
end Go.Proofs.YtdilhbodokbnoaaDoor.EfC

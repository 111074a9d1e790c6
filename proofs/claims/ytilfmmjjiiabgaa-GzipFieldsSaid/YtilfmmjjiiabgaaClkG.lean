import Derived.Test.YtilfmmjjiiabgaaClkF
import Derived.Test.YtilfmmjjiiabgaaClkD
namespace Go.Proofs.Ytilfmmjjiiabgaa.ClkC
open Go.RowKit Go.My Flt

theorem nan_cut (t : Nat) : isNaN ((t % 2) * 2 ^ 63 + 0x7ff0000000000000 + 1 + (t / 2) % (2 ^ 52 - 1)) = true := by
  have h1 : t % 2 < 2 := Nat.mod_lt _ (by omega)
  have h2 : (t / 2) % (2 ^ 52 - 1) < 2 ^ 52 - 1 := Nat.mod_lt _ (by omega)
  generalize t % 2 = s at *
  generalize (t / 2) % (2 ^ 52 - 1) = k at *
  have e : s * 2 ^ 63 + 0x7ff0000000000000 + 1 + k = D.word (s == 1) (9218868437227405313 + k) := by
    unfold Ieee.Format.word
    rw [sign_eq]
    have : s = 0 ∨ s = 1 := by omega
    rcases this with rfl | rfl
    · simp <;> omega
    · simp <;> omega
  unfold isNaN
  rw [e, read_word _ _ (by omega), if_neg (by omega), if_neg (by omega), if_neg (by omega)]
  rfl
theorem r_nan (w : World) : ∃ r, (binOp .quo 23 (.float .f64 0) (.float .f64 0)).run Try.prog w = .ok (.float .f64 r) w.drew ∧ isNaN r = true := by
  have hd : FloatKind.f64.format.div 0 0 = none := by decide
  refine ⟨_, ?_, nan_cut (w.tape w.drawn (.nanBits .f64 0 0))⟩
  simp [binOp, Op.floatArith, hd, Question.forced, Question.cut]
theorem none_any (w : World) :
    Calls Try.prog 15 #[] w fun e w' => (∃ r, e = .returned (.float .f64 r) ∧ isNaN r = true) ∧ Below w.heap.size w w' := by
  obtain ⟨r, hr, hn⟩ := r_nan w
  have HN := Lib.hid hn
  clear hn
  go_enter Try.func15, Try.ntmps15
  go_wp2_with fail
  go_ret
  exact ⟨⟨r, rfl, HN.out⟩, (Below.refl _ _).drew⟩

noncomputable def unixT (t : Nat) : Int := if isNaN t then 0 else max 0 (min 4294967295 (par t / 512))
set_option maxRecDepth 100000 in
theorem unix_any (t : Nat) (w : World) :
    Calls Try.prog 25 #[.float .f64 t] w fun e w' => e = .returned (.int .i64 (unixT t)) ∧ w = w' := by
  cases hn : isNaN t
  case true =>
    have e1 := self_nan hn
    have HP : Hid (unixT t = 0) := Lib.hid (by unfold unixT; rw [hn]; rfl)
    rw [HP.out]
    clear hn HP
    go_enter Try.func25, Try.ntmps25
    go_wp2_with fail
    go_ret
    exact ⟨rfl, rfl⟩
  have e1 := self_num hn
  have hP : unixT t = max 0 (min 4294967295 (par t / 512)) := by unfold unixT; rw [hn]; rfl
  by_cases hlo : K t < 0
  · have e2 : (FloatKind.f64.format.order t 0 == some .lt) = true := by rw [f_lt, hn, n_0, K_0, decide_eq_true hlo]; rfl
    have HP : Hid (unixT t = 0) := Lib.hid (by
      have := (lt_iff t 0).1 (by omega)
      rw [hP]; omega)
    rw [HP.out]
    clear hn HP hP hlo
    go_enter Try.func25, Try.ntmps25
    go_wp2_with fail
    go_ret
    exact ⟨rfl, rfl⟩
  have e2 : (FloatKind.f64.format.order t 0 == some .lt) = false := by rw [f_lt, hn, n_0, K_0, decide_eq_false hlo]; rfl
  by_cases hhi : 2199023255040 * (Q : Int) ≤ K t
  · have e3 : (FloatKind.f64.format.order t 4751297606873776128 == some .gt || FloatKind.f64.format.order t 4751297606873776128 == some .eq) = true := by rw [f_ge, hn, n_u, K_u, decide_eq_true hhi]; rfl
    have HP : Hid (unixT t = 4294967295) := Lib.hid (by
      have := (ge_iff t _).1 hhi
      rw [hP]; omega)
    rw [HP.out]
    clear hn HP hP hlo hhi
    go_enter Try.func25, Try.ntmps25
    go_wp2_with fail
    go_ret
    exact ⟨rfl, rfl⟩
  have e3 : (FloatKind.f64.format.order t 4751297606873776128 == some .gt || FloatKind.f64.format.order t 4751297606873776128 == some .eq) = false := by rw [f_ge, hn, n_u, K_u, decide_eq_false hhi]; rfl
  have hQ := Q_pos
  obtain ⟨hfin, _, hp1, hp2⟩ := in_range hn (by omega) (by omega)
  have hq1 := (ge_iff t 0).1 (by omega)
  have hq2 := (lt_iff t 2199023255040).1 (by omega)
  have htd : Int.tdiv (K t) (U : Int) = par t / 512 := by
    rw [← sec_eq]
    exact Int.tdiv_eq_ediv_of_nonneg (by omega)
  have hc := r_int hfin htd (by omega) (by omega)
  have HP : Hid (unixT t = par t / 512) := Lib.hid (by rw [hP]; omega)
  rw [HP.out]
  clear hn HP hP hlo hhi hfin htd hp1 hp2 hq1 hq2
  generalize par t / 512 = n at *
  go_enter Try.func25, Try.ntmps25
  go_wp2_with fail
  go_ret
  exact ⟨rfl, rfl⟩

def fromU (v : Int) : Nat := if v < 1 ∨ 4294967295 < v then nanW else fl (512 * v)
theorem fromunix_any (v : Int) (w : World) :
    Calls Try.prog 31 #[.int .i64 v] w fun e w' => e = .returned (.float .f64 (fromU v)) ∧ w = w' := by
  unfold fromU
  by_cases h1 : v < 1
  · rw [if_pos (.inl h1)]
    go_enter Try.func31, Try.ntmps31
    go_wp2_with fail
    refine (nan_any w).mono ?_
    rintro e w' ⟨rfl, rfl⟩
    go_wp2_with fail
    go_ret
    exact ⟨rfl, rfl⟩
  by_cases h2 : 4294967295 < v
  · rw [if_pos (.inr h2)]
    go_enter Try.func31, Try.ntmps31
    go_wp2_with fail
    refine (nan_any w).mono ?_
    rintro e w' ⟨rfl, rfl⟩
    go_wp2_with fail
    go_ret
    exact ⟨rfl, rfl⟩
  rw [if_neg (by omega)]
  have HF : Hid (floatOfInt .f64 v = fl (512 * v)) := Lib.hid (floatOfInt_fl v (by omega))
  go_enter Try.func31, Try.ntmps31
  go_wp2_with fail
  go_ret
  exact ⟨ret_float HF.out, rfl⟩
end Go.Proofs.Ytilfmmjjiiabgaa.ClkC

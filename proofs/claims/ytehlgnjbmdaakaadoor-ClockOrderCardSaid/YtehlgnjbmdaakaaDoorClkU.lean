import Derived.Test.YtehlgnjbmdaakaaDoorClkH
namespace Go.Proofs.YtehlgnjbmdaakaaDoor.ClkC
open Go.RowKit Go.My Flt NumMath Txt Clk

theorem f_le_fl {p q : Int} (h1 : p.natAbs < 9007199254740992) (h2 : q.natAbs < 9007199254740992) (h : p ≤ q) : (FloatKind.f64.format.order (fl p) (fl q) == some .lt || FloatKind.f64.format.order (fl p) (fl q) == some .eq) = true := by
  rw [f_le, isNaN_fl p h1, isNaN_fl q h2, K_fl p h1, K_fl q h2]
  have hQ := Q_pos
  have := Int.mul_le_mul_of_nonneg_right h (Int.le_of_lt hQ)
  simp [this]
theorem minutes_mono {q q' : Int} (h : q < q') : q / 60 * 2048 + q % 60 * 32 + 32 ≤ q' / 60 * 2048 + q' % 60 * 32 := by
  by_cases h2 : q / 60 = q' / 60
  · omega
  · have : q / 60 + 1 ≤ q' / 60 := by omega
    omega
theorem time_mono {r r' : Int} (h0 : 0 ≤ r) (h : r ≤ r') (h1 : r' < 86400) : 0 ≤ r / 3600 * 2048 + r / 60 % 60 * 32 + r % 60 / 2 ∧ r / 3600 * 2048 + r / 60 % 60 * 32 + r % 60 / 2 ≤ r' / 3600 * 2048 + r' / 60 % 60 * 32 + r' % 60 / 2 ∧ r' / 3600 * 2048 + r' / 60 % 60 * 32 + r' % 60 / 2 ≤ 65535 := by
  have e1 : r / 3600 = r / 60 / 60 := by omega
  have e2 : r' / 3600 = r' / 60 / 60 := by omega
  rw [e1, e2]
  refine ⟨by omega, ?_, by omega⟩
  by_cases hq : r / 60 = r' / 60
  · rw [hq]; omega
  · have := minutes_mono (show r / 60 < r' / 60 by omega)
    omega
theorem lex_mono {Y M D Y' M' D' : Int} (m1 : 1 ≤ M) (m2 : M ≤ 12) (m1' : 1 ≤ M') (m2' : M' ≤ 12) (d1 : 1 ≤ D) (d2 : D ≤ 31) (d1' : 1 ≤ D') (d2' : D' ≤ 31) (h : Y < Y' ∨ (Y = Y' ∧ M < M') ∨ (Y = Y' ∧ M = M' ∧ D < D')) :
    (Y - 1980) * 512 + M * 32 + D + 1 ≤ (Y' - 1980) * 512 + M' * 32 + D' := by
  rcases h with h | ⟨rfl, h⟩ | ⟨rfl, rfl, h⟩ <;> omega
/-- A later second is no earlier date. -/
theorem dosZ_mono {a b : Int} (ha : 315532800 ≤ a) (hb : b ≤ 4354819199) (h : a ≤ b) : dosZ a ≤ dosZ b := by
  obtain ⟨n, r, Y, M, D, q1, q2, q3, q4, hn2, hs, hr3, hr4, hn3, hn4, hY1, hY2, hv, hd1, hd2, hd3⟩ := date_facts a (by omega) (by omega)
  obtain ⟨n', r', Y', M', D', q1', q2', q3', q4', hn2', hs', hr3', hr4', hn3', hn4', hY1', hY2', hv', hd1', hd2', hd3'⟩ := date_facts b (by omega) (by omega)
  unfold dosZ
  rw [q1, q2, q3, q4, q1', q2', q3', q4']
  have hn : days Y M D = n := by unfold days; omega
  have hn' : days Y' M' D' = n' := by unfold days; omega
  have hm := (mlen_pos Y M).2
  have hm' := (mlen_pos Y' M').2
  by_cases he : n = n'
  · obtain ⟨rfl, rfl, rfl⟩ := days_inj hv hv' (by rw [hn, hn', he])
    have := time_mono hr3 (show r ≤ r' by omega) hr4'
    omega
  · have hlt : n < n' := by omega
    have hcase : Y < Y' ∨ (Y = Y' ∧ M < M') ∨ (Y = Y' ∧ M = M' ∧ D < D') := by
      by_cases k1 : Y < Y'
      · exact .inl k1
      by_cases k2 : Y' < Y
      · have := days_lt hv' hv (.inl k2); omega
      have hY : Y = Y' := by omega
      by_cases k3 : M < M'
      · exact .inr (.inl ⟨hY, k3⟩)
      by_cases k4 : M' < M
      · have := days_lt hv' hv (.inr (.inl ⟨hY.symm, k4⟩)); omega
      have hM : M = M' := by omega
      by_cases k5 : D < D'
      · exact .inr (.inr ⟨hY, hM, k5⟩)
      exfalso
      by_cases k6 : D' < D
      · have := days_lt hv' hv (.inr (.inr ⟨hY.symm, hM.symm, k6⟩)); omega
      have hD : D = D' := by omega
      rw [hY, hM, hD] at hn
      omega
    have t1 := time_mono hr3 (Int.le_refl r) hr4
    have t2 := time_mono hr3' (Int.le_refl r') hr4'
    have l := lex_mono hv.1 hv.2.1 hv'.1 hv'.2.1 hv.2.2.1 (by have := hv.2.2.2; omega) hv'.2.2.1 (by have := hv'.2.2.2; omega) hcase
    generalize r / 3600 * 2048 + r / 60 % 60 * 32 + r % 60 / 2 = T at *
    generalize r' / 3600 * 2048 + r' / 60 % 60 * 32 + r' % 60 / 2 = T' at *
    omega
theorem secT_range (t : Nat) : 315532800 ≤ secT t ∧ secT t ≤ 4354819198 := by unfold secT; omega
theorem fineP_mono {a b : Nat} (ha : isNaN a = false) (hb : isNaN b = false) (h : K a ≤ K b) : fineP a ≤ fineP b := by
  have := par_mono h
  unfold fineP
  rw [ha, hb]
  simp only [Bool.false_eq_true, if_false]
  omega
theorem unixT_mono {a b : Nat} (ha : isNaN a = false) (hb : isNaN b = false) (h : K a ≤ K b) : unixT a ≤ unixT b := by
  have := par_mono h
  unfold unixT
  rw [ha, hb]
  simp only [Bool.false_eq_true, if_false]
  omega
theorem dosT_mono {a b : Nat} (ha : isNaN a = false) (hb : isNaN b = false) (h : K a ≤ K b) : dosT a ≤ dosT b := by
  have := par_mono h
  unfold dosT
  rw [ha, hb]
  simp only [Bool.false_eq_true, if_false]
  have r1 := secT_range a
  have r2 := secT_range b
  exact dosZ_mono r1.1 (by omega) (by unfold secT; omega)

/-- One order of the two. -/
theorem order_le (a b A B : Nat) (w : World) (HPW : Hid (Pow w)) (hA : isNaN A = false) (hB : isNaN B = false) (hK : K A ≤ K B)
    (hsw : (A = a ∧ B = b ∧ (FloatKind.f64.format.order a b == some .lt || FloatKind.f64.format.order a b == some .eq) = true) ∨ (A = b ∧ B = a ∧ (FloatKind.f64.format.order a b == some .lt || FloatKind.f64.format.order a b == some .eq) = false)) :
    Calls Tryd.prog 7 #[.float .f64 a, .float .f64 b] w fun e w' => e = .returned (.bool true) ∧ Below w.heap.size w w' := by
  have HF1 := Lib.hid (fun w => fine_any A w)
  have HF2 := Lib.hid (fun w => fine_any B w)
  have HU1 := Lib.hid (fun w => unix_any A w)
  have HU2 := Lib.hid (fun w => unix_any B w)
  have HD1 := Lib.hid (fun w => dos_any A w)
  have HD2 := Lib.hid (fun w => dos_any B w)
  have r1 := fineP_le A
  have r2 := fineP_le B
  have hf := f_le_fl (by omega) (by omega) (fineP_mono hA hB hK)
  have hu := unixT_mono hA hB hK
  have hd := dosT_mono hA hB hK
  have hAB : (FloatKind.f64.format.order A B == some .lt || FloatKind.f64.format.order A B == some .eq) = true := by rw [f_le, hA, hB, decide_eq_true hK]; rfl
  clear r1 r2 hK hA hB
  generalize fl (fineP A) = x1 at *
  generalize fl (fineP B) = x2 at *
  generalize unixT A = u1 at *
  generalize unixT B = u2 at *
  generalize dosT A = d1 at *
  generalize dosT B = d2 at *
  have hu' : decide (u1 ≤ u2) = true := decide_eq_true hu
  have hd' : decide (d1 ≤ d2) = true := decide_eq_true hd
  rcases hsw with ⟨rfl, rfl, hc⟩ | ⟨rfl, rfl, hc⟩
  · go_enter Tryd.func7, Tryd.ntmps7
    go_wp2_with fail
    refine (told_any w HPW.out).mono ?_
    rintro e w1 ⟨rfl, b1⟩
    go_wp2_with fail
    refine (HF1.out w1).mono ?_
    rintro e w' ⟨rfl, rfl⟩
    go_wp2_with fail
    refine (HF2.out w1).mono ?_
    rintro e w' ⟨rfl, rfl⟩
    go_wp2_with fail
    refine (HU1.out w1).mono ?_
    rintro e w' ⟨rfl, rfl⟩
    go_wp2_with fail
    refine (HU2.out w1).mono ?_
    rintro e w' ⟨rfl, rfl⟩
    go_wp2_with fail
    refine (HD1.out w1).mono ?_
    rintro e w2 ⟨rfl, b2⟩
    go_wp2_with fail
    refine (HD2.out w2).mono ?_
    rintro e w3 ⟨rfl, b3⟩
    go_wp2_with fail
    go_ret
    exact ⟨rfl, b1.trans ((b2.trans (b3.mono b2.size)).mono b1.size)⟩
  · go_enter Tryd.func7, Tryd.ntmps7
    go_wp2_with fail
    refine (told_any w HPW.out).mono ?_
    rintro e w1 ⟨rfl, b1⟩
    go_wp2_with fail
    refine (HF1.out w1).mono ?_
    rintro e w' ⟨rfl, rfl⟩
    go_wp2_with fail
    refine (HF2.out w1).mono ?_
    rintro e w' ⟨rfl, rfl⟩
    go_wp2_with fail
    refine (HU1.out w1).mono ?_
    rintro e w' ⟨rfl, rfl⟩
    go_wp2_with fail
    refine (HU2.out w1).mono ?_
    rintro e w' ⟨rfl, rfl⟩
    go_wp2_with fail
    refine (HD1.out w1).mono ?_
    rintro e w2 ⟨rfl, b2⟩
    go_wp2_with fail
    refine (HD2.out w2).mono ?_
    rintro e w3 ⟨rfl, b3⟩
    go_wp2_with fail
    go_ret
    exact ⟨rfl, b1.trans ((b2.trans (b3.mono b2.size)).mono b1.size)⟩

/-- Neither is no later than the other one. -/
theorem order_none (a b : Nat) (w : World) (hP : Pow w) (h1 : (FloatKind.f64.format.order a b == some .lt || FloatKind.f64.format.order a b == some .eq) = false) (h2 : (FloatKind.f64.format.order b a == some .lt || FloatKind.f64.format.order b a == some .eq) = false) :
    Calls Tryd.prog 7 #[.float .f64 a, .float .f64 b] w fun e w' => e = .returned (.bool true) ∧ Below w.heap.size w w' := by
  have HPW := Lib.hid hP
  clear hP
  go_enter Tryd.func7, Tryd.ntmps7
  go_wp2_with fail
  refine (told_any w HPW.out).mono ?_
  rintro e w1 ⟨rfl, b1⟩
  go_wp2_with fail
  go_ret
  exact ⟨rfl, b1⟩
theorem order_law (a b : Nat) (w : World) (hP : Pow w) :
    Calls Tryd.prog 7 #[.float .f64 a, .float .f64 b] w fun e w' => e = .returned (.bool true) ∧ Below w.heap.size w w' := by
  cases ha : isNaN a
  case true => exact order_none a b w hP (by rw [f_le, ha]; rfl) (by rw [f_le, ha]; simp)
  cases hb : isNaN b
  case true => exact order_none a b w hP (by rw [f_le, hb]; simp) (by rw [f_le, hb]; rfl)
  by_cases hK : K a ≤ K b
  · exact order_le a b a b w (Lib.hid hP) ha hb hK (.inl ⟨rfl, rfl, by rw [f_le, ha, hb, decide_eq_true hK]; rfl⟩)
  · exact order_le a b b a w (Lib.hid hP) hb ha (by omega) (.inr ⟨rfl, rfl, by rw [f_le, ha, hb, decide_eq_false hK]; rfl⟩)
end Go.Proofs.YtehlgnjbmdaakaaDoor.ClkC

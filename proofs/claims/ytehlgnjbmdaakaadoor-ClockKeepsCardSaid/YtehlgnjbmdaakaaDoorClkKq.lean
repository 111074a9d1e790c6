import Derived.Test.YtehlgnjbmdaakaaDoorClkKp
namespace Go.Proofs.YtehlgnjbmdaakaaDoor.ClkC
open Go.RowKit Go.My Flt NumMath Txt Clk

/-! ### the facts -/
theorem text_size (p : Int) (h1 : -4398046511104 ≤ p) (h2 : p ≤ 4398046511104) : (⟨(textF p).toArray⟩ : ByteArray).size ≤ 1000000 := by
  rw [Lib.size_eq]
  show (textF p).length ≤ _
  unfold textF
  have d1 : (Lib.decDigits (p.natAbs / 512)).length ≤ 20 := by rw [dec_dg 20 _ (by omega) (by omega)]; exact dg_len 20 _
  have d2 : (fracT (p.natAbs % 512)).length ≤ 10 := by
    unfold fracT
    split
    · simp
    · have := gen_len 9 (p.natAbs % 512)
      simp only [List.length_cons]; omega
  have d3 : (if p < 0 then [45] else ([] : List UInt8)).length ≤ 1 := by split <;> simp
  simp only [List.length_append]
  omega
theorem secT_rng (t : Nat) : 315532800 ≤ secT t ∧ secT t ≤ 4354819198 := by unfold secT; omega
theorem unixT_nan {t : Nat} (h : isNaN t = true) : unixT t = 0 := by unfold unixT; rw [h]; rfl
theorem dosT_nan {t : Nat} (h : isNaN t = true) : dosT t = 0 := by unfold dosT; rw [h]; rfl
theorem unixT_le (t : Nat) : 0 ≤ unixT t ∧ unixT t ≤ 4294967295 := by unfold unixT; split <;> omega
theorem unixT_fl {n : Int} (h1 : 0 ≤ n) (h2 : n ≤ 4294967295) : unixT (fl (512 * n)) = n := by
  unfold unixT
  rw [isNaN_fl _ (by omega), par_fl _ (by omega)]
  simp only [Bool.false_eq_true, if_false]
  omega
theorem secT_fl {n : Int} (h1 : 315532800 ≤ n) (h2 : n ≤ 4354819198) : secT (fl (512 * n)) = n := by
  unfold secT
  rw [par_fl _ (by omega)]
  omega
theorem dosT_fl {n : Int} (h1 : 315532800 ≤ n) (h2 : n ≤ 4354819198) : dosT (fl (512 * n)) = dosZ n := by
  unfold dosT
  rw [isNaN_fl _ (by omega), secT_fl h1 h2]; rfl
theorem fromU_small {n : Int} (h1 : 1 ≤ n) (h2 : n ≤ 4294967295) : fromU n = fl (512 * n) := by unfold fromU; rw [if_neg (by omega)]
theorem l_one : fl 512 = 4607182418800017408 := by decide +kernel
theorem l_after : fl 2229667430400 = 4751360366145961984 := by decide +kernel

theorem keeps_law (t : Nat) (v : Int) (w : World) (hP : Pow w) :
    Calls Tryd.prog 6 #[.float .f64 t, .int .i64 v] w fun e w' => e = .returned (.bool true) ∧ Below w.heap.size w w' := by
  obtain ⟨hp1, hp2⟩ := fineP_le t
  obtain ⟨pe, pp⟩ := parse_text (fineP t) hp1 hp2
  have hPa : ∀ w, Calls Tryd.prog 18 #[.string ⟨(textF (fineP t)).toArray⟩] w fun e w' => e = .returned (.tuple #[.float .f64 (fl (fineP t)), .int .i64 0]) ∧ Below w.heap.size w w' := fun w => by
    have := parse_any ⟨(textF (fineP t)).toArray⟩ w (text_size _ hp1 hp2)
    rw [show (⟨(textF (fineP t)).toArray⟩ : ByteArray).data.toList = textF (fineP t) from rfl, pe, pp] at this
    exact this
  have hFF : ∀ w, Calls Tryd.prog 21 #[.float .f64 (fl (fineP t))] w fun e w' => e = .returned (.float .f64 (fl (fineP t))) ∧ w = w' := fun w => by
    have := fine_any (fl (fineP t)) w
    rw [fineP_fl _ hp1 hp2] at this
    exact this
  have hff := self_num (isNaN_fl (fineP t) (by omega))
  -- what FromDos tells of v
  have hD : ∃ x, x = fromD v ∧ ((FloatKind.f64.format.order x x != some .eq) = true ∨ ((FloatKind.f64.format.order x x != some .eq) = false ∧ Hid (∀ w, Calls Tryd.prog 28 #[.float .f64 x] w fun e w' => e = .returned (.int .i64 v) ∧ Below w.heap.size w w'))) := by
    refine ⟨_, rfl, ?_⟩
    unfold fromD
    by_cases h1 : v < 0 ∨ 4294967295 < v
    · rw [if_pos h1]; exact .inl (self_nan isNaN_nanW)
    rw [if_neg h1]
    by_cases h2 : okD v = true
    · rw [h2]
      obtain ⟨b1, b2, b3⟩ := dos_back (by omega) (by omega) h2
      refine .inr ⟨self_num (isNaN_fl _ (by omega)), Lib.hid fun w => ?_⟩
      have := dos_any (fl (512 * secD v)) w
      rw [dosT_fl b2 b3, b1] at this
      exact this
    · rw [if_neg h2]; exact .inl (self_nan isNaN_nanW)
  obtain ⟨x, hx, hD⟩ := hD
  have HW : Hid (∀ w, Calls Tryd.prog 27 #[.int .i64 v] w fun e w' => e = .returned (.float .f64 x) ∧ Below w.heap.size w w') := Lib.hid fun w => by rw [hx]; exact fromdos_any v w
  have hu0 := unixT_le t
  -- what comes of the whole seconds
  have hUU : ∀ w, Calls Tryd.prog 25 #[.int .i64 (unixT (fromU (unixT t)))] w fun e w' => e = .returned (.float .f64 (fromU (unixT t))) ∧ w = w' := fun w => by
    have := fromunix_any (unixT (fromU (unixT t))) w
    have e : fromU (unixT (fromU (unixT t))) = fromU (unixT t) := by
      by_cases h : 1 ≤ unixT t
      · rw [fromU_small h hu0.2, unixT_fl (by omega) hu0.2, fromU_small h hu0.2]
      · have h0 : unixT t = 0 := by omega
        rw [h0, show fromU 0 = nanW from rfl, unixT_nan isNaN_nanW]; rfl
    rw [e] at this
    exact this
  have hSu : ∀ w, Calls Tryd.prog 20 #[.float .f64 (fromU (unixT t)), .float .f64 (fromU (unixT t))] w fun e w' => e = .returned (.bool true) ∧ w = w' := fun w => by
    by_cases h : 1 ≤ unixT t
    · rw [fromU_small h hu0.2]; exact same_fl _ w (by omega)
    · have h0 : unixT t = 0 := by omega
      rw [h0]; exact same_nan _ _ w isNaN_nanW isNaN_nanW
  cases hn : isNaN t
  case true =>
    have hk := dosT_nan hn
    have hdn : fromD (dosT t) = nanW := by rw [hk]; exact fromD_zero
    refine keeps_walk t (fl (fineP t)) (fromU (unixT t)) nanW x 0 (unixT t) (unixT (fromU (unixT t))) (dosT t) 0 v ⟨(textF (fineP t)).toArray⟩ w (Lib.hid hP)
      (Lib.hid (fine_any t)) (Lib.hid (text_any t)) (Lib.hid hPa) (Lib.hid hFF) (Lib.hid fun w => same_fl _ w (by omega)) (Lib.hid (unix_any t)) (Lib.hid (fromunix_any _)) (Lib.hid (unix_any _)) (Lib.hid hUU) (Lib.hid hSu)
      (Lib.hid (dos_any t)) (Lib.hid fun w => hdn ▸ fromdos_any (dosT t) w) (Lib.hid fun w => dosT_nan isNaN_nanW ▸ dos_any nanW w) (Lib.hid fun w => fromD_zero ▸ fromdos_any 0 w) (Lib.hid fun w => same_nan _ _ w isNaN_nanW isNaN_nanW) HW hff
      (.inl ⟨by rw [f_gt, hn]; simp, ?_, self_nan' isNaN_nanW, self_nan' hn, self_nan hn⟩) hD
    rw [unixT_nan hn]; exact self_nan' isNaN_nanW
  have hs := secT_rng t
  have hm1 : 315532800 ≤ secT t - secT t % 2 := by omega
  have hm2 : secT t - secT t % 2 ≤ 4354819198 := by omega
  have hk : dosT t = dosZ (secT t) := by unfold dosT; rw [hn]; rfl
  have hdn : fromD (dosT t) = fl (512 * (secT t - secT t % 2)) := by rw [hk]; exact fromD_dos hs.1 (by omega)
  have hk2 : dosT (fl (512 * (secT t - secT t % 2))) = dosZ (secT t - secT t % 2) := dosT_fl hm1 hm2
  have hdd : fromD (dosZ (secT t - secT t % 2)) = fl (512 * (secT t - secT t % 2)) := by
    rw [fromD_dos hm1 (by omega), show secT t - secT t % 2 - (secT t - secT t % 2) % 2 = secT t - secT t % 2 by omega]
  have hQ := Q_pos
  obtain ⟨m, hm⟩ : ∃ m, m = secT t - secT t % 2 := ⟨_, rfl⟩
  rw [← hm] at hm1 hm2 hdn hk2 hdd
  have hu1 : ∃ u1, ((FloatKind.f64.format.order (fromU (unixT t)) (fromU (unixT t)) == some .eq) = false ∨
      ((FloatKind.f64.format.order (fromU (unixT t)) (fromU (unixT t)) == some .eq) = true ∧ (FloatKind.f64.format.order (fromU (unixT t)) t == some .gt) = false ∧ (∀ w, (binOp .add 32 (.float .f64 (fromU (unixT t))) (.float .f64 4607182418800017408)).run Tryd.prog w = .ok (.float .f64 u1) w) ∧
        ((FloatKind.f64.format.order u1 t == some .lt || FloatKind.f64.format.order u1 t == some .eq) = false ∨ ((FloatKind.f64.format.order u1 t == some .lt || FloatKind.f64.format.order u1 t == some .eq) = true ∧ (FloatKind.f64.format.order t 4751297606873776128 == some .lt) = false)))) := by
    by_cases h : 1 ≤ unixT t
    · have hun : unixT t = max 0 (min 4294967295 (par t / 512)) := by unfold unixT; rw [hn]; rfl
      have hself := par_self t
      have hle : 512 * unixT t * (Q : Int) ≤ K t := by
        have : 512 * unixT t ≤ par t := by omega
        have := Int.mul_le_mul_of_nonneg_right this (Int.le_of_lt hQ)
        omega
      refine ⟨fl (512 * unixT t + 512), .inr ?_⟩
      rw [fromU_small h hu0.2]
      refine ⟨self_num' (isNaN_fl _ (by omega)), ?_, ?_, ?_⟩
      · rw [f_gt, isNaN_fl _ (by omega), hn, K_fl _ (by omega), decide_eq_false (by omega)]; rfl
      · have ha := add_fl (fl (512 * unixT t)) (fl 512) (512 * unixT t) 512 (fin_fl _ (by omega)) (fin_fl _ (by omega)) (K_fl _ (by omega)) (K_fl _ (by omega)) (by omega) (by omega)
        rw [l_one] at ha
        exact r_add ha
      · by_cases hc : (512 * unixT t + 512) * (Q : Int) ≤ K t
        · refine .inr ⟨by rw [f_le, isNaN_fl _ (by omega), hn, K_fl _ (by omega), decide_eq_true hc]; rfl, ?_⟩
          have hge := (ge_iff t (512 * unixT t + 512)).1 hc
          have h32 : 2199023255040 ≤ par t := by omega
          have := (ge_iff t 2199023255040).2 h32
          rw [f_lt, hn, n_u, K_u, decide_eq_false (by omega)]; rfl
        · exact .inl (by rw [f_le, isNaN_fl _ (by omega), hn, K_fl _ (by omega), decide_eq_false hc]; rfl)
    · have h0 : unixT t = 0 := by omega
      refine ⟨0, .inl ?_⟩
      rw [h0]; exact self_nan' isNaN_nanW
  obtain ⟨u1, hu1⟩ := hu1
  have hA : (FloatKind.f64.format.order (fl (fineP t)) t == some .gt) = false ∨ ((FloatKind.f64.format.order (fl (fineP t)) t == some .gt) = true ∧ (FloatKind.f64.format.order t 13979173243358019584 == some .gt || FloatKind.f64.format.order t 13979173243358019584 == some .eq) = false) := by
    by_cases hc : K t < fineP t * (Q : Int)
    · refine .inr ⟨by rw [f_gt, isNaN_fl _ (by omega), hn, K_fl _ (by omega), decide_eq_true hc]; rfl, ?_⟩
      have hlt := (lt_iff t (fineP t)).1 hc
      have hfp : fineP t = max (-4398046511104) (min 4398046511104 (par t)) := by unfold fineP; rw [hn]; rfl
      have hp : par t < -4398046511104 := by omega
      have := (lt_iff t (-4398046511104)).2 hp
      rw [f_ge, hn, n_lo, K_lo, decide_eq_false (by omega)]; rfl
    · exact .inl (by rw [f_gt, isNaN_fl _ (by omega), hn, K_fl _ (by omega), decide_eq_false hc]; rfl)
  have hd1 : (FloatKind.f64.format.order (fl (512 * m)) 4734073370679705600 == some .gt || FloatKind.f64.format.order (fl (512 * m)) 4734073370679705600 == some .eq) = true := by
    rw [f_ge, isNaN_fl _ (by omega), n_first, K_fl _ (by omega), K_first]
    have := Int.mul_le_mul_of_nonneg_right (show 161552793600 ≤ 512 * m by omega) (Int.le_of_lt hQ)
    rw [decide_eq_true this]; rfl
  have hd2 : (FloatKind.f64.format.order (fl (512 * m)) 4751360366145961984 == some .lt) = true := by
    rw [← l_after, f_lt, isNaN_fl _ (by omega), isNaN_fl _ (by omega), K_fl _ (by omega), K_fl _ (by omega)]
    have := Int.mul_lt_mul_of_pos_right (show 512 * m < 2229667430400 by omega) hQ
    rw [decide_eq_true this]; rfl
  exact keeps_walk t (fl (fineP t)) (fromU (unixT t)) (fl (512 * m)) x u1 (unixT t) (unixT (fromU (unixT t))) (dosT t) (dosZ m) v ⟨(textF (fineP t)).toArray⟩ w (Lib.hid hP)
    (Lib.hid (fine_any t)) (Lib.hid (text_any t)) (Lib.hid hPa) (Lib.hid hFF) (Lib.hid fun w => same_fl _ w (by omega)) (Lib.hid (unix_any t)) (Lib.hid (fromunix_any _)) (Lib.hid (unix_any _)) (Lib.hid hUU) (Lib.hid hSu)
    (Lib.hid (dos_any t)) (Lib.hid fun w => hdn ▸ fromdos_any (dosT t) w) (Lib.hid fun w => hk2 ▸ dos_any (fl (512 * m)) w) (Lib.hid fun w => hdd ▸ fromdos_any (dosZ m) w) (Lib.hid fun w => same_fl _ w (by omega)) HW hff
    (.inr ⟨hA, hu1, self_num' (isNaN_fl _ (by omega)), self_num' hn, self_num hn, hd1, hd2⟩) hD
end Go.Proofs.YtehlgnjbmdaakaaDoor.ClkC

import Derived.Test.YtehlgnjbmdaakaaGreatDoorClkEd
namespace Go.Proofs.YtehlgnjbmdaakaaGreatDoor.ClkC
open Go.RowKit Go.My Flt NumMath Txt Clk

theorem refdate_asD (x : Int) {y m d h mi s : Int} (hF : dateF x = dateV y m d h mi s) (w : World) :
    Calls Tryz.prog 23 #[.int .i64 x] w fun e w' => e = .returned (.agg #[.int .i64 y, .int .i64 m, .int .i64 d, .int .i64 h, .int .i64 mi, .int .i64 s]) ∧ Below w.heap.size w w' := by
  have := refdate_any x w
  rw [hF] at this
  exact this
theorem i64_joinL (k : Nat) (a b p : Int) (hp : p = ((2 ^ k : Nat) : Int)) (hk : k ≤ 20) (ha : 0 ≤ a) (ha2 : a ≤ 200000000) (hb0 : 0 ≤ b) (hb : b < p) : bits .or .i64 (a * p) b = a * p + b := by
  obtain ⟨x, rfl⟩ := Int.eq_ofNat_of_zero_le ha
  obtain ⟨y, rfl⟩ := Int.eq_ofNat_of_zero_le hb0
  subst hp
  have h1 : (2 : Nat) ^ k ≤ 2 ^ 20 := Nat.pow_le_pow_right (by omega) hk
  have h2 : x * 2 ^ k ≤ 200000000 * 2 ^ 20 := Nat.mul_le_mul (by omega) h1
  have hy : y < 2 ^ k := by omega
  rw [← Int.natCast_mul, i64_or_nat _ _ (by omega) (by omega), nat_join k _ _ (Nat.mul_mod_left _ _) hy]
  exact Int.natCast_add _ _
set_option maxRecDepth 100000 in
theorem refdos_mid (t : Nat) (w : World) (e1 : (FloatKind.f64.format.order t t != some .eq) = false) (e2 : (FloatKind.f64.format.order t 4751360366145961984 == some .gt || FloatKind.f64.format.order t 4751360366145961984 == some .eq) = false) (e3 : (FloatKind.f64.format.order t 4734073370679705600 == some .gt || FloatKind.f64.format.order t 4734073370679705600 == some .eq) = true) (n : Int) (HWH : Hid (∀ w, Calls Tryz.prog 20 #[.float .f64 t] w fun e w' => e = .returned (.int .i64 n) ∧ w = w')) (h1 : 315532800 ≤ n) (h2 : n ≤ 4354819199) :
    Calls Tryz.prog 13 #[.float .f64 t] w fun e w' => e = .returned (.int .i64 (dosZ n)) ∧ Below w.heap.size w w' := by
  obtain ⟨k, r, Y, M, D, q1, q2, q3, q4, hn2, hs, hr3, hr4, hn3, hn4, hY1, hY2, hv, hd1, hd2, hd3⟩ := date_facts n (by omega) (by omega)
  have hF : dateF n = dateV Y M D (r / 3600) (r / 60 % 60) (r % 60) := by unfold dateF; rw [if_neg (by omega)]; unfold dateOf; rw [q1, q2, q3, q4]
  have HZ : Hid (dosZ n = ((Y - 1980) * 512 + M * 32 + D) * 65536 + (r / 3600 * 2048 + r / 60 % 60 * 32 + r % 60 / 2)) := Lib.hid (by unfold dosZ; rw [q1, q2, q3, q4])
  have hYY : 1980 ≤ Y ∧ Y ≤ 2107 := by
    have a1 := d2_mono (y := Y + 1) (z := 1980)
    have a2 := d2_mono (y := 2108) (z := Y)
    have b1 : d2 1980 = 3652 := by decide
    have b2 : d2 2108 = 50403 := by decide
    omega
  obtain ⟨v1, v2, v3, v4⟩ := hv
  have hml := (mlen_pos Y M).2
  have HF := Lib.hid hF
  obtain ⟨hy1, hy2⟩ := hYY
  have hD : D ≤ 31 := by omega
  have hh1 : 0 ≤ r / 3600 := by omega
  have hh2 : r / 3600 ≤ 23 := by omega
  have hi1 : 0 ≤ r / 60 % 60 := by omega
  have hi2 : r / 60 % 60 ≤ 59 := by omega
  have hs1 : 0 ≤ r % 60 := by omega
  have hs2 : r % 60 ≤ 59 := by omega
  clear q1 q2 q3 q4 hn2 hs hr3 hr4 hn3 hn4 hY1 hY2 hd1 hd2 hd3 v4 hml hF
  generalize r / 3600 = H at *
  generalize r / 60 % 60 = I at *
  generalize r % 60 = S at *
  rw [HZ.out]
  clear HZ
  go_enter Tryz.func13, Tryz.ntmps13
  go_wp2_with fail
  refine (HWH.out _).mono ?_
  rintro e w' ⟨rfl, rfl⟩
  go_wp2_with fail
  refine (refdate_asD n HF.out _).mono ?_
  rintro e w' ⟨rfl, hb⟩
  go_wp2_with fail
  go_ret
  refine ⟨ret_int ?_, hb.alloc hb.size _⟩
  have a1 := i64_join 9 (Y - 1980) (M * 32) 512 rfl (by omega) (by omega) (by omega) (by omega) (by omega)
  have a2 := i64_join 5 ((Y - 1980) * 16 + M) D 32 rfl (by omega) (by omega) (by omega) (by omega) (by omega)
  have a3 := i64_join 16 ((Y - 1980) * 512 + M * 32 + D) (H * 2048) 65536 rfl (by omega) (by omega) (by omega) (by omega) (by omega)
  have a4 := i64_joinL 11 (((Y - 1980) * 512 + M * 32 + D) * 32 + H) (I * 32) 2048 rfl (by omega) (by omega) (by omega) (by omega) (by omega)
  have hX : (((Y - 1980) * 512 + M * 32 + D) * 32 + H) * 64 + I ≤ 200000000 := by omega
  have a5 := i64_joinL 5 ((((Y - 1980) * 512 + M * 32 + D) * 32 + H) * 64 + I) (S / 2) 32 rfl (by omega) (by omega) (by omega) (by omega) (by omega)
  rw [a1, show (Y - 1980) * 512 + M * 32 = ((Y - 1980) * 16 + M) * 32 by omega, a2]
  rw [show wrap64 ((((Y - 1980) * 16 + M) * 32 + D) * 65536) = ((Y - 1980) * 512 + M * 32 + D) * 65536 by unfold wrap64; omega]
  rw [a3, show ((Y - 1980) * 512 + M * 32 + D) * 65536 + H * 2048 = (((Y - 1980) * 512 + M * 32 + D) * 32 + H) * 2048 by omega, a4]
  rw [show (((Y - 1980) * 512 + M * 32 + D) * 32 + H) * 2048 + I * 32 = ((((Y - 1980) * 512 + M * 32 + D) * 32 + H) * 64 + I) * 32 by omega, a5]
  omega
set_option maxRecDepth 100000 in
theorem refdos_lo (t : Nat) (w : World) (e1 : (FloatKind.f64.format.order t t != some .eq) = false) (e2 : (FloatKind.f64.format.order t 4751360366145961984 == some .gt || FloatKind.f64.format.order t 4751360366145961984 == some .eq) = false) (e3 : (FloatKind.f64.format.order t 4734073370679705600 == some .gt || FloatKind.f64.format.order t 4734073370679705600 == some .eq) = false) :
    Calls Tryz.prog 13 #[.float .f64 t] w fun e w' => e = .returned (.int .i64 (dosZ 315532800)) ∧ Below w.heap.size w w' := by
  obtain ⟨k, r, Y, M, D, q1, q2, q3, q4, hn2, hs, hr3, hr4, hn3, hn4, hY1, hY2, hv, hd1, hd2, hd3⟩ := date_facts 315532800 (by omega) (by omega)
  have hF : dateF 315532800 = dateV Y M D (r / 3600) (r / 60 % 60) (r % 60) := by unfold dateF; rw [if_neg (by omega)]; unfold dateOf; rw [q1, q2, q3, q4]
  have HZ : Hid (dosZ 315532800 = ((Y - 1980) * 512 + M * 32 + D) * 65536 + (r / 3600 * 2048 + r / 60 % 60 * 32 + r % 60 / 2)) := Lib.hid (by unfold dosZ; rw [q1, q2, q3, q4])
  have hYY : 1980 ≤ Y ∧ Y ≤ 2107 := by
    have a1 := d2_mono (y := Y + 1) (z := 1980)
    have a2 := d2_mono (y := 2108) (z := Y)
    have b1 : d2 1980 = 3652 := by decide
    have b2 : d2 2108 = 50403 := by decide
    omega
  obtain ⟨v1, v2, v3, v4⟩ := hv
  have hml := (mlen_pos Y M).2
  have HF := Lib.hid hF
  obtain ⟨hy1, hy2⟩ := hYY
  have hD : D ≤ 31 := by omega
  have hh1 : 0 ≤ r / 3600 := by omega
  have hh2 : r / 3600 ≤ 23 := by omega
  have hi1 : 0 ≤ r / 60 % 60 := by omega
  have hi2 : r / 60 % 60 ≤ 59 := by omega
  have hs1 : 0 ≤ r % 60 := by omega
  have hs2 : r % 60 ≤ 59 := by omega
  clear q1 q2 q3 q4 hn2 hs hr3 hr4 hn3 hn4 hY1 hY2 hd1 hd2 hd3 v4 hml hF
  generalize r / 3600 = H at *
  generalize r / 60 % 60 = I at *
  generalize r % 60 = S at *
  rw [HZ.out]
  clear HZ
  go_enter Tryz.func13, Tryz.ntmps13
  go_wp2_with fail
  refine (refdate_asD 315532800 HF.out _).mono ?_
  rintro e w' ⟨rfl, hb⟩
  go_wp2_with fail
  go_ret
  refine ⟨ret_int ?_, hb.alloc hb.size _⟩
  have a1 := i64_join 9 (Y - 1980) (M * 32) 512 rfl (by omega) (by omega) (by omega) (by omega) (by omega)
  have a2 := i64_join 5 ((Y - 1980) * 16 + M) D 32 rfl (by omega) (by omega) (by omega) (by omega) (by omega)
  have a3 := i64_join 16 ((Y - 1980) * 512 + M * 32 + D) (H * 2048) 65536 rfl (by omega) (by omega) (by omega) (by omega) (by omega)
  have a4 := i64_joinL 11 (((Y - 1980) * 512 + M * 32 + D) * 32 + H) (I * 32) 2048 rfl (by omega) (by omega) (by omega) (by omega) (by omega)
  have hX : (((Y - 1980) * 512 + M * 32 + D) * 32 + H) * 64 + I ≤ 200000000 := by omega
  have a5 := i64_joinL 5 ((((Y - 1980) * 512 + M * 32 + D) * 32 + H) * 64 + I) (S / 2) 32 rfl (by omega) (by omega) (by omega) (by omega) (by omega)
  rw [a1, show (Y - 1980) * 512 + M * 32 = ((Y - 1980) * 16 + M) * 32 by omega, a2]
  rw [show wrap64 ((((Y - 1980) * 16 + M) * 32 + D) * 65536) = ((Y - 1980) * 512 + M * 32 + D) * 65536 by unfold wrap64; omega]
  rw [a3, show ((Y - 1980) * 512 + M * 32 + D) * 65536 + H * 2048 = (((Y - 1980) * 512 + M * 32 + D) * 32 + H) * 2048 by omega, a4]
  rw [show (((Y - 1980) * 512 + M * 32 + D) * 32 + H) * 2048 + I * 32 = ((((Y - 1980) * 512 + M * 32 + D) * 32 + H) * 64 + I) * 32 by omega, a5]
  omega
set_option maxRecDepth 100000 in
theorem refdos_up (t : Nat) (w : World) (e1 : (FloatKind.f64.format.order t t != some .eq) = false) (e2 : (FloatKind.f64.format.order t 4751360366145961984 == some .gt || FloatKind.f64.format.order t 4751360366145961984 == some .eq) = true) :
    Calls Tryz.prog 13 #[.float .f64 t] w fun e w' => e = .returned (.int .i64 (dosZ 4354819198)) ∧ Below w.heap.size w w' := by
  obtain ⟨k, r, Y, M, D, q1, q2, q3, q4, hn2, hs, hr3, hr4, hn3, hn4, hY1, hY2, hv, hd1, hd2, hd3⟩ := date_facts 4354819198 (by omega) (by omega)
  have hF : dateF 4354819198 = dateV Y M D (r / 3600) (r / 60 % 60) (r % 60) := by unfold dateF; rw [if_neg (by omega)]; unfold dateOf; rw [q1, q2, q3, q4]
  have HZ : Hid (dosZ 4354819198 = ((Y - 1980) * 512 + M * 32 + D) * 65536 + (r / 3600 * 2048 + r / 60 % 60 * 32 + r % 60 / 2)) := Lib.hid (by unfold dosZ; rw [q1, q2, q3, q4])
  have hYY : 1980 ≤ Y ∧ Y ≤ 2107 := by
    have a1 := d2_mono (y := Y + 1) (z := 1980)
    have a2 := d2_mono (y := 2108) (z := Y)
    have b1 : d2 1980 = 3652 := by decide
    have b2 : d2 2108 = 50403 := by decide
    omega
  obtain ⟨v1, v2, v3, v4⟩ := hv
  have hml := (mlen_pos Y M).2
  have HF := Lib.hid hF
  obtain ⟨hy1, hy2⟩ := hYY
  have hD : D ≤ 31 := by omega
  have hh1 : 0 ≤ r / 3600 := by omega
  have hh2 : r / 3600 ≤ 23 := by omega
  have hi1 : 0 ≤ r / 60 % 60 := by omega
  have hi2 : r / 60 % 60 ≤ 59 := by omega
  have hs1 : 0 ≤ r % 60 := by omega
  have hs2 : r % 60 ≤ 59 := by omega
  clear q1 q2 q3 q4 hn2 hs hr3 hr4 hn3 hn4 hY1 hY2 hd1 hd2 hd3 v4 hml hF
  generalize r / 3600 = H at *
  generalize r / 60 % 60 = I at *
  generalize r % 60 = S at *
  rw [HZ.out]
  clear HZ
  go_enter Tryz.func13, Tryz.ntmps13
  go_wp2_with fail
  refine (refdate_asD 4354819198 HF.out _).mono ?_
  rintro e w' ⟨rfl, hb⟩
  go_wp2_with fail
  go_ret
  refine ⟨ret_int ?_, hb.alloc hb.size _⟩
  have a1 := i64_join 9 (Y - 1980) (M * 32) 512 rfl (by omega) (by omega) (by omega) (by omega) (by omega)
  have a2 := i64_join 5 ((Y - 1980) * 16 + M) D 32 rfl (by omega) (by omega) (by omega) (by omega) (by omega)
  have a3 := i64_join 16 ((Y - 1980) * 512 + M * 32 + D) (H * 2048) 65536 rfl (by omega) (by omega) (by omega) (by omega) (by omega)
  have a4 := i64_joinL 11 (((Y - 1980) * 512 + M * 32 + D) * 32 + H) (I * 32) 2048 rfl (by omega) (by omega) (by omega) (by omega) (by omega)
  have hX : (((Y - 1980) * 512 + M * 32 + D) * 32 + H) * 64 + I ≤ 200000000 := by omega
  have a5 := i64_joinL 5 ((((Y - 1980) * 512 + M * 32 + D) * 32 + H) * 64 + I) (S / 2) 32 rfl (by omega) (by omega) (by omega) (by omega) (by omega)
  rw [a1, show (Y - 1980) * 512 + M * 32 = ((Y - 1980) * 16 + M) * 32 by omega, a2]
  rw [show wrap64 ((((Y - 1980) * 16 + M) * 32 + D) * 65536) = ((Y - 1980) * 512 + M * 32 + D) * 65536 by unfold wrap64; omega]
  rw [a3, show ((Y - 1980) * 512 + M * 32 + D) * 65536 + H * 2048 = (((Y - 1980) * 512 + M * 32 + D) * 32 + H) * 2048 by omega, a4]
  rw [show (((Y - 1980) * 512 + M * 32 + D) * 32 + H) * 2048 + I * 32 = ((((Y - 1980) * 512 + M * 32 + D) * 32 + H) * 64 + I) * 32 by omega, a5]
  omega

theorem l_after' : fl 2229667430400 = 4751360366145961984 := by decide +kernel
theorem K_after : K 4751360366145961984 = 2229667430400 * (Q : Int) := by rw [← l_after']; exact K_fl _ (by decide)
theorem n_after : isNaN 4751360366145961984 = false := by rw [← l_after']; exact isNaN_fl _ (by decide)
set_option maxRecDepth 100000 in
theorem refdos_any (t : Nat) (w : World) :
    Calls Tryz.prog 13 #[.float .f64 t] w fun e w' => e = .returned (.int .i64 (dosT t)) ∧ Below w.heap.size w w' := by
  cases hn : isNaN t
  case true =>
    have e1 := self_nan hn
    have HP : Hid (dosT t = 0) := Lib.hid (by unfold dosT; rw [hn]; rfl)
    rw [HP.out]
    clear hn HP
    go_enter Tryz.func13, Tryz.ntmps13
    go_wp2_with fail
    go_ret
    exact ⟨rfl, Below.refl _ _⟩
  have e1 := self_num hn
  have hP : dosT t = dosZ (secT t) := by unfold dosT; rw [hn]; rfl
  have hQ := Q_pos
  by_cases hhi : 2229667430400 * (Q : Int) ≤ K t
  · have e2 : (FloatKind.f64.format.order t 4751360366145961984 == some .gt || FloatKind.f64.format.order t 4751360366145961984 == some .eq) = true := by rw [f_ge, hn, n_after, K_after, decide_eq_true hhi]; rfl
    have hs : secT t = 4354819198 := by have := (ge_iff t 2229667430400).1 hhi; unfold secT; omega
    rw [hP, hs]
    exact refdos_up t w e1 e2
  have e2 : (FloatKind.f64.format.order t 4751360366145961984 == some .gt || FloatKind.f64.format.order t 4751360366145961984 == some .eq) = false := by rw [f_ge, hn, n_after, K_after, decide_eq_false hhi]; rfl
  by_cases hlo : 161552793600 * (Q : Int) ≤ K t
  case neg =>
    have e3 : (FloatKind.f64.format.order t 4734073370679705600 == some .gt || FloatKind.f64.format.order t 4734073370679705600 == some .eq) = false := by rw [f_ge, hn, n_first, K_first, decide_eq_false hlo]; rfl
    have hs : secT t = 315532800 := by have := (lt_iff t 161552793600).1 (by omega); unfold secT; omega
    rw [hP, hs]
    exact refdos_lo t w e1 e2 e3
  have e3 : (FloatKind.f64.format.order t 4734073370679705600 == some .gt || FloatKind.f64.format.order t 4734073370679705600 == some .eq) = true := by rw [f_ge, hn, n_first, K_first, decide_eq_true hlo]; rfl
  obtain ⟨hfin, _, hp1, hp2⟩ := in_range hn (by omega) (by omega)
  have hq1 := (ge_iff t 161552793600).1 hlo
  have hq2 := (lt_iff t 2229667430400).1 (by omega)
  have hW : ∀ w, Calls Tryz.prog 20 #[.float .f64 t] w fun e w' => e = .returned (.int .i64 (par t / 512)) ∧ w = w' := fun w => by
    have := whole_any t w hfin (by rw [sec_eq]; omega) (by rw [sec_eq]; omega)
    rw [sec_eq] at this
    exact this
  have h := refdos_mid t w e1 e2 e3 (par t / 512) (Lib.hid hW) (by omega) (by omega)
  have hz : dosT t = dosZ (par t / 512) := by
    rw [hP]
    by_cases hc : par t / 512 = 4354819199
    · rw [hc, dosZ_last, show secT t = 4354819198 by unfold secT; omega]
    · rw [show secT t = par t / 512 by unfold secT; omega]
  rw [hz]
  exact h

theorem like_same {x r : Nat} (hx : isNaN x = true ∨ ∃ p : Int, p.natAbs < 9007199254740992 ∧ x = fl p) (h : Like x r) (w : World) :
    Calls Tryz.prog 9 #[.float .f64 x, .float .f64 r] w fun e w' => e = .returned (.bool true) ∧ w = w' := by
  rcases h with rfl | ⟨h1, h2⟩
  · rcases hx with hx | ⟨p, hp, rfl⟩
    · exact same_nan _ _ w hx hx
    · exact same_fl p w hp
  · exact same_nan _ _ w h1 h2
theorem fromU_form (v : Int) : isNaN (fromU v) = true ∨ ∃ p : Int, p.natAbs < 9007199254740992 ∧ fromU v = fl p := by
  unfold fromU
  split
  · exact .inl isNaN_nanW
  · exact .inr ⟨512 * v, by omega, rfl⟩
theorem fromD_form (v : Int) : isNaN (fromD v) = true ∨ ∃ p : Int, p.natAbs < 9007199254740992 ∧ fromD v = fl p := by
  unfold fromD
  split
  · exact .inl isNaN_nanW
  · split
    · rename_i h
      have := secD_small h
      exact .inr ⟨512 * secD v, by omega, rfl⟩
    · exact .inl isNaN_nanW
theorem sameF_self (t : Nat) : sameF t t = true := by unfold sameF; cases isNaN t <;> simp

set_option maxRecDepth 100000 in
set_option maxHeartbeats 1000000 in
theorem edges_law (t u : Nat) (v : Int) (w : World) (hP : Pow w) :
    Calls Tryz.prog 3 #[.float .f64 t, .float .f64 u, .int .i64 v] w fun e w' => e = .returned (.bool true) ∧ Below w.heap.size w w' := by
  have HPW := Lib.hid hP
  have HS1 := Lib.hid (fun w => clocksame_any t u w)
  have HS2 := Lib.hid (fun w => refsame_any t u w)
  have hS3 := fun w => clocksame_any t t w
  rw [sameF_self] at hS3
  have HS3 := Lib.hid hS3
  have HU1 := Lib.hid (fun w => unix_any t w)
  have HU2 := Lib.hid (fun w => refunix_any t w)
  have HF1 := Lib.hid (fun w => fromunix_any v w)
  have HF2 := Lib.hid (fun w => reffromunix_any v w)
  have HD1 := Lib.hid (fun w => dos_any t w)
  have HD2 := Lib.hid (fun w => refdos_any t w)
  have HG1 := Lib.hid (fun w => fromdos_any v w)
  have HG2 := Lib.hid (fun w => reffromdos_any v w)
  have HL1 := Lib.hid (fromU_form v)
  have HL2 := Lib.hid (fromD_form v)
  clear hP hS3
  generalize sameF t u = b at *
  generalize unixT t = n at *
  generalize fromU v = x at *
  generalize dosT t = k at *
  generalize fromD v = y at *
  go_enter Tryz.func3, Tryz.ntmps3
  go_wp2_with fail
  refine (told_any w HPW.out).mono ?_
  rintro e w1 ⟨rfl, b1⟩
  go_wp2_with fail
  refine (HS1.out w1).mono ?_
  rintro e w' ⟨rfl, rfl⟩
  go_wp2_with fail
  refine (HS2.out w1).mono ?_
  rintro e w' ⟨rfl, rfl⟩
  go_wp2_with fail
  refine (HS3.out w1).mono ?_
  rintro e w' ⟨rfl, rfl⟩
  go_wp2_with fail
  refine (HU1.out w1).mono ?_
  rintro e w' ⟨rfl, rfl⟩
  go_wp2_with fail
  refine (HU2.out w1).mono ?_
  rintro e w' ⟨rfl, rfl⟩
  go_wp2_with fail
  refine (HF1.out w1).mono ?_
  rintro e w' ⟨rfl, rfl⟩
  go_wp2_with fail
  refine (HF2.out w1).mono ?_
  rintro e w2 ⟨⟨r, rfl, hr⟩, b2⟩
  have HR := Lib.hid hr
  have B2 := b1.trans (b2.mono b1.size)
  clear hr b1 b2
  go_wp2_with fail
  refine (like_same HL1.out HR.out w2).mono ?_
  rintro e w' ⟨rfl, rfl⟩
  go_wp2_with fail
  refine (HD1.out w2).mono ?_
  rintro e w3 ⟨rfl, b3⟩
  have B3 := B2.trans (b3.mono B2.size)
  clear B2 b3
  go_wp2_with fail
  refine (HD2.out w3).mono ?_
  rintro e w4 ⟨rfl, b4⟩
  have B4 := B3.trans (b4.mono B3.size)
  clear B3 b4
  go_wp2_with fail
  refine (HG1.out w4).mono ?_
  rintro e w5 ⟨rfl, b5⟩
  have B5 := B4.trans (b5.mono B4.size)
  clear B4 b5
  go_wp2_with fail
  refine (HG2.out w5).mono ?_
  rintro e w6 ⟨⟨q, rfl, hq⟩, b6⟩
  have HR2 := Lib.hid hq
  have B6 := B5.trans (b6.mono B5.size)
  clear hq B5 b6
  go_wp2_with fail
  refine (like_same HL2.out HR2.out w6).mono ?_
  rintro e w' ⟨rfl, rfl⟩
  go_wp2_with fail
  go_ret
  exact ⟨rfl, B6⟩
end Go.Proofs.YtehlgnjbmdaakaaGreatDoor.ClkC

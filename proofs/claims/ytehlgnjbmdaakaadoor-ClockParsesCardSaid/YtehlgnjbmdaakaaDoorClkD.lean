import Derived.Test.YtehlgnjbmdaakaaDoorClkF
import Derived.Test.YtehlgnjbmdaakaaDoorClkS
namespace Go.Proofs.YtehlgnjbmdaakaaDoor.ClkC
open Go.RowKit Go.My Flt Clk

theorem k_first : fl 161552793600 = 4734073370679705600 := by decide +kernel
theorem k_last : fl 2229667429376 = 4751360366143864832 := by decide +kernel
theorem K_first : K 4734073370679705600 = 161552793600 * (Q : Int) := by rw [← k_first]; exact K_fl _ (by decide)
theorem K_last : K 4751360366143864832 = 2229667429376 * (Q : Int) := by rw [← k_last]; exact K_fl _ (by decide)
theorem n_first : isNaN 4734073370679705600 = false := by rw [← k_first]; exact isNaN_fl _ (by decide)
theorem n_last : isNaN 4751360366143864832 = false := by rw [← k_last]; exact isNaN_fl _ (by decide)

theorem r_int {x : Nat} {n : Int} (hx : fin x) (h : Int.tdiv (K x) (U : Int) = n) (h1 : -9223372036854775808 ≤ n) (h2 : n ≤ 9223372036854775807) (w : World) :
    (convert 32 3 (.float .f64 x)).run Tryd.prog w = .ok (.int .i64 n) w := by
  refine run_convert_float_int w _ _ .f64 .i64 x n (by kernel_rfl) Tryd.underlying3 ?_
  have ht : (FloatKind.f64.decode x).toInt .zero = some n := by rw [← h]; exact toInt_K x hx
  unfold floatToIntVal
  simp only [ht]
  rw [if_pos ⟨h1, h2⟩]
theorem r_int_fl (n : Int) (h : (512 * n).natAbs < 9007199254740992) (w : World) :
    (convert 32 3 (.float .f64 (fl (512 * n)))).run Tryd.prog w = .ok (.int .i64 n) w := by
  refine r_int (fin_fl _ h) ?_ (by omega) (by omega) w
  rw [K_fl _ h]
  have : 512 * n * (Q : Int) = n * (U : Int) := by unfold U; rw [Int.natCast_mul, Int.mul_comm 512 n, Int.mul_assoc]; rfl
  rw [this]
  exact Int.mul_tdiv_cancel _ (by have := U_pos; omega)

theorem i64_or_nat (a b : Nat) (ha : a < 2 ^ 63) (hb : b < 2 ^ 63) : bits .or .i64 (a : Int) (b : Int) = ((a ||| b : Nat) : Int) := by
  have h := Nat.or_lt_two_pow ha hb
  show IntKind.i64.wrap ((BitVec.ofInt 64 (a : Int) ||| BitVec.ofInt 64 (b : Int)).toNat : Int) = _
  rw [BitVec.toNat_or, BitVec.toNat_ofInt, BitVec.toNat_ofInt]
  rw [show ((a : Int) % ((2 ^ 64 : Nat) : Int)).toNat = a from by omega, show ((b : Int) % ((2 ^ 64 : Nat) : Int)).toNat = b from by omega]
  rw [IntKind.wrap_i64]
  omega
theorem i64_join (k : Nat) (a b p : Int) (hp : p = ((2 ^ k : Nat) : Int)) (hk : k ≤ 20) (ha : 0 ≤ a) (ha2 : a ≤ 1000000) (hb0 : 0 ≤ b) (hb : b < p) : bits .or .i64 (a * p) b = a * p + b := by
  obtain ⟨x, rfl⟩ := Int.eq_ofNat_of_zero_le ha
  obtain ⟨y, rfl⟩ := Int.eq_ofNat_of_zero_le hb0
  subst hp
  have h1 : (2 : Nat) ^ k ≤ 2 ^ 20 := Nat.pow_le_pow_right (by omega) hk
  have h2 : x * 2 ^ k ≤ 1000000 * 2 ^ 20 := Nat.mul_le_mul (by omega) h1
  have hy : y < 2 ^ k := by omega
  rw [← Int.natCast_mul, i64_or_nat _ _ (by omega) (by omega), nat_join k _ _ (Nat.mul_mod_left _ _) hy]
  exact Int.natCast_add _ _

/-- A date as MS-DOS packs it. -/
def dosZ (n : Int) : Int := ((yy (dayN n) - 1980) * 512 + mm (dayN n) * 32 + dd (dayN n)) * 65536 + (restN n / 3600 * 2048 + restN n / 60 % 60 * 32 + restN n % 60 / 2)
noncomputable def secT (t : Nat) : Int := max 315532800 (min 4354819198 (par t / 512))

set_option maxRecDepth 100000 in
theorem dos_hi (t : Nat) (w : World) (e1 : (FloatKind.f64.format.order t t != some .eq) = false) (e2 : (FloatKind.f64.format.order t 4734073370679705600 == some .lt) = false)
    (e3 : (FloatKind.f64.format.order t 4751360366143864832 == some .gt) = false) (n : Int) (hc : ∀ w, (convert 32 3 (.float .f64 t)).run Tryd.prog w = .ok (.int .i64 n) w) (h1 : 315532800 ≤ n) (h2 : n ≤ 4354819199) :
    Calls Tryd.prog 28 #[.float .f64 t] w fun e w' => e = .returned (.int .i64 (dosZ n)) ∧ Below w.heap.size w w' := by
  obtain ⟨k, r, Y, M, D, q1, q2, q3, q4, hn2, hs, hr3, hr4, hn3, hn4, hY1, hY2, hv, hd1, hd2, hd3⟩ := date_facts n (by omega) (by omega)
  have hF : dateF n = dateV Y M D (r / 3600) (r / 60 % 60) (r % 60) := by unfold dateF; rw [if_neg (by omega)]; unfold dateOf; rw [q1, q2, q3, q4]
  have HZ : Hid (dosZ n = ((Y - 1980) * 512 + M * 32 + D) * 65536 + (r / 3600 * 2048 + r / 60 % 60 * 32 + r % 60 / 2)) := Lib.hid (by unfold dosZ; rw [q1, q2, q3, q4])
  have hYY : 1980 ≤ Y ∧ Y ≤ 2107 := by
    have a1 := d2_mono (y := Y + 1) (z := 1980)
    have a2 := d2_mono (y := 2108) (z := Y)
    have b1 : d2 1980 = 3652 := by decide
    have b2 : d2 2108 = 50403 := by decide
    omega
  obtain ⟨v1, v2, v3, v4⟩ := hv
  have hml := (mlen_pos Y M).2
  have HF := Lib.hid hF
  obtain ⟨hy1, hy2⟩ := hYY
  have hD : D ≤ 31 := by omega
  have hh1 : 0 ≤ r / 3600 := by omega
  have hh2 : r / 3600 ≤ 23 := by omega
  have hi1 : 0 ≤ r / 60 % 60 := by omega
  have hi2 : r / 60 % 60 ≤ 59 := by omega
  have hs1 : 0 ≤ r % 60 := by omega
  have hs2 : r % 60 ≤ 59 := by omega
  clear q1 q2 q3 q4 hn2 hs hr3 hr4 hn3 hn4 hY1 hY2 hd1 hd2 hd3 v4 hml hF
  generalize r / 3600 = H at *
  generalize r / 60 % 60 = I at *
  generalize r % 60 = S at *
  rw [HZ.out]
  clear HZ
  go_enter Tryd.func28, Tryd.ntmps28
  go_wp2_with fail
  refine (date_as n HF.out _).mono ?_
  rintro e w' ⟨rfl, hb⟩
  go_wp2_with fail
  go_ret
  refine ⟨ret_int ?_, hb.alloc hb.size _⟩
  have a1 := i64_join 9 (Y - 1980) (M * 32) 512 rfl (by omega) (by omega) (by omega) (by omega) (by omega)
  have a2 := i64_join 5 ((Y - 1980) * 16 + M) D 32 rfl (by omega) (by omega) (by omega) (by omega) (by omega)
  have a3 := i64_join 11 H (I * 32) 2048 rfl (by omega) (by omega) (by omega) (by omega) (by omega)
  have a4 := i64_join 5 (H * 64 + I) (S / 2) 32 rfl (by omega) (by omega) (by omega) (by omega) (by omega)
  have a5 := i64_join 16 ((Y - 1980) * 512 + M * 32 + D) (H * 2048 + I * 32 + S / 2) 65536 rfl (by omega) (by omega) (by omega) (by omega) (by omega)
  rw [a1, show (Y - 1980) * 512 + M * 32 = ((Y - 1980) * 16 + M) * 32 by omega, a2, a3, show H * 2048 + I * 32 = (H * 64 + I) * 32 by omega, a4]
  rw [show wrap64 ((((Y - 1980) * 16 + M) * 32 + D) * 65536) = ((Y - 1980) * 512 + M * 32 + D) * 65536 by unfold wrap64; omega]
  rw [show (H * 64 + I) * 32 + S / 2 = H * 2048 + I * 32 + S / 2 by omega, a5]
  omega
theorem conv_first (w : World) : (convert 32 3 (.float .f64 4734073370679705600)).run Tryd.prog w = .ok (.int .i64 315532800) w := by
  have := r_int_fl 315532800 (by decide) w
  rw [show (512 * 315532800 : Int) = 161552793600 from rfl, k_first] at this
  exact this
theorem conv_last (w : World) : (convert 32 3 (.float .f64 4751360366143864832)).run Tryd.prog w = .ok (.int .i64 4354819198) w := by
  have := r_int_fl 4354819198 (by decide) w
  rw [show (512 * 4354819198 : Int) = 2229667429376 from rfl, k_last] at this
  exact this
set_option maxRecDepth 100000 in
theorem dos_lo (t : Nat) (w : World) (e1 : (FloatKind.f64.format.order t t != some .eq) = false) (e2 : (FloatKind.f64.format.order t 4734073370679705600 == some .lt) = true) :
    Calls Tryd.prog 28 #[.float .f64 t] w fun e w' => e = .returned (.int .i64 (dosZ 315532800)) ∧ Below w.heap.size w w' := by
  obtain ⟨k, r, Y, M, D, q1, q2, q3, q4, hn2, hs, hr3, hr4, hn3, hn4, hY1, hY2, hv, hd1, hd2, hd3⟩ := date_facts 315532800 (by omega) (by omega)
  have hF : dateF 315532800 = dateV Y M D (r / 3600) (r / 60 % 60) (r % 60) := by unfold dateF; rw [if_neg (by omega)]; unfold dateOf; rw [q1, q2, q3, q4]
  have HZ : Hid (dosZ 315532800 = ((Y - 1980) * 512 + M * 32 + D) * 65536 + (r / 3600 * 2048 + r / 60 % 60 * 32 + r % 60 / 2)) := Lib.hid (by unfold dosZ; rw [q1, q2, q3, q4])
  have hYY : 1980 ≤ Y ∧ Y ≤ 2107 := by
    have a1 := d2_mono (y := Y + 1) (z := 1980)
    have a2 := d2_mono (y := 2108) (z := Y)
    have b1 : d2 1980 = 3652 := by decide
    have b2 : d2 2108 = 50403 := by decide
    omega
  obtain ⟨v1, v2, v3, v4⟩ := hv
  have hml := (mlen_pos Y M).2
  have HF := Lib.hid hF
  obtain ⟨hy1, hy2⟩ := hYY
  have hD : D ≤ 31 := by omega
  have hh1 : 0 ≤ r / 3600 := by omega
  have hh2 : r / 3600 ≤ 23 := by omega
  have hi1 : 0 ≤ r / 60 % 60 := by omega
  have hi2 : r / 60 % 60 ≤ 59 := by omega
  have hs1 : 0 ≤ r % 60 := by omega
  have hs2 : r % 60 ≤ 59 := by omega
  have hc := conv_first
  have h1 : (315532800 : Int) ≤ 315532800 := by omega
  have h2 : (315532800 : Int) ≤ 4354819199 := by omega
  clear q1 q2 q3 q4 hn2 hs hr3 hr4 hn3 hn4 hY1 hY2 hd1 hd2 hd3 v4 hml hF
  generalize r / 3600 = H at *
  generalize r / 60 % 60 = I at *
  generalize r % 60 = S at *
  rw [HZ.out]
  clear HZ
  go_enter Tryd.func28, Tryd.ntmps28
  go_wp2_with fail
  refine (date_as 315532800 HF.out _).mono ?_
  rintro e w' ⟨rfl, hb⟩
  go_wp2_with fail
  go_ret
  refine ⟨ret_int ?_, hb.alloc hb.size _⟩
  have a1 := i64_join 9 (Y - 1980) (M * 32) 512 rfl (by omega) (by omega) (by omega) (by omega) (by omega)
  have a2 := i64_join 5 ((Y - 1980) * 16 + M) D 32 rfl (by omega) (by omega) (by omega) (by omega) (by omega)
  have a3 := i64_join 11 H (I * 32) 2048 rfl (by omega) (by omega) (by omega) (by omega) (by omega)
  have a4 := i64_join 5 (H * 64 + I) (S / 2) 32 rfl (by omega) (by omega) (by omega) (by omega) (by omega)
  have a5 := i64_join 16 ((Y - 1980) * 512 + M * 32 + D) (H * 2048 + I * 32 + S / 2) 65536 rfl (by omega) (by omega) (by omega) (by omega) (by omega)
  rw [a1, show (Y - 1980) * 512 + M * 32 = ((Y - 1980) * 16 + M) * 32 by omega, a2, a3, show H * 2048 + I * 32 = (H * 64 + I) * 32 by omega, a4]
  rw [show wrap64 ((((Y - 1980) * 16 + M) * 32 + D) * 65536) = ((Y - 1980) * 512 + M * 32 + D) * 65536 by unfold wrap64; omega]
  rw [show (H * 64 + I) * 32 + S / 2 = H * 2048 + I * 32 + S / 2 by omega, a5]
  omega
set_option maxRecDepth 100000 in
theorem dos_up (t : Nat) (w : World) (e1 : (FloatKind.f64.format.order t t != some .eq) = false) (e2 : (FloatKind.f64.format.order t 4734073370679705600 == some .lt) = false) (e3 : (FloatKind.f64.format.order t 4751360366143864832 == some .gt) = true) :
    Calls Tryd.prog 28 #[.float .f64 t] w fun e w' => e = .returned (.int .i64 (dosZ 4354819198)) ∧ Below w.heap.size w w' := by
  obtain ⟨k, r, Y, M, D, q1, q2, q3, q4, hn2, hs, hr3, hr4, hn3, hn4, hY1, hY2, hv, hd1, hd2, hd3⟩ := date_facts 4354819198 (by omega) (by omega)
  have hF : dateF 4354819198 = dateV Y M D (r / 3600) (r / 60 % 60) (r % 60) := by unfold dateF; rw [if_neg (by omega)]; unfold dateOf; rw [q1, q2, q3, q4]
  have HZ : Hid (dosZ 4354819198 = ((Y - 1980) * 512 + M * 32 + D) * 65536 + (r / 3600 * 2048 + r / 60 % 60 * 32 + r % 60 / 2)) := Lib.hid (by unfold dosZ; rw [q1, q2, q3, q4])
  have hYY : 1980 ≤ Y ∧ Y ≤ 2107 := by
    have a1 := d2_mono (y := Y + 1) (z := 1980)
    have a2 := d2_mono (y := 2108) (z := Y)
    have b1 : d2 1980 = 3652 := by decide
    have b2 : d2 2108 = 50403 := by decide
    omega
  obtain ⟨v1, v2, v3, v4⟩ := hv
  have hml := (mlen_pos Y M).2
  have HF := Lib.hid hF
  obtain ⟨hy1, hy2⟩ := hYY
  have hD : D ≤ 31 := by omega
  have hh1 : 0 ≤ r / 3600 := by omega
  have hh2 : r / 3600 ≤ 23 := by omega
  have hi1 : 0 ≤ r / 60 % 60 := by omega
  have hi2 : r / 60 % 60 ≤ 59 := by omega
  have hs1 : 0 ≤ r % 60 := by omega
  have hs2 : r % 60 ≤ 59 := by omega
  have hc := conv_last
  have h1 : (315532800 : Int) ≤ 4354819198 := by omega
  have h2 : (4354819198 : Int) ≤ 4354819199 := by omega
  clear q1 q2 q3 q4 hn2 hs hr3 hr4 hn3 hn4 hY1 hY2 hd1 hd2 hd3 v4 hml hF
  generalize r / 3600 = H at *
  generalize r / 60 % 60 = I at *
  generalize r % 60 = S at *
  rw [HZ.out]
  clear HZ
  go_enter Tryd.func28, Tryd.ntmps28
  go_wp2_with fail
  refine (date_as 4354819198 HF.out _).mono ?_
  rintro e w' ⟨rfl, hb⟩
  go_wp2_with fail
  go_ret
  refine ⟨ret_int ?_, hb.alloc hb.size _⟩
  have a1 := i64_join 9 (Y - 1980) (M * 32) 512 rfl (by omega) (by omega) (by omega) (by omega) (by omega)
  have a2 := i64_join 5 ((Y - 1980) * 16 + M) D 32 rfl (by omega) (by omega) (by omega) (by omega) (by omega)
  have a3 := i64_join 11 H (I * 32) 2048 rfl (by omega) (by omega) (by omega) (by omega) (by omega)
  have a4 := i64_join 5 (H * 64 + I) (S / 2) 32 rfl (by omega) (by omega) (by omega) (by omega) (by omega)
  have a5 := i64_join 16 ((Y - 1980) * 512 + M * 32 + D) (H * 2048 + I * 32 + S / 2) 65536 rfl (by omega) (by omega) (by omega) (by omega) (by omega)
  rw [a1, show (Y - 1980) * 512 + M * 32 = ((Y - 1980) * 16 + M) * 32 by omega, a2, a3, show H * 2048 + I * 32 = (H * 64 + I) * 32 by omega, a4]
  rw [show wrap64 ((((Y - 1980) * 16 + M) * 32 + D) * 65536) = ((Y - 1980) * 512 + M * 32 + D) * 65536 by unfold wrap64; omega]
  rw [show (H * 64 + I) * 32 + S / 2 = H * 2048 + I * 32 + S / 2 by omega, a5]
  omega
theorem dosZ_last : dosZ 4354819199 = dosZ 4354819198 := by decide +kernel
noncomputable def dosT (t : Nat) : Int := if isNaN t then 0 else dosZ (secT t)

set_option maxRecDepth 100000 in
theorem dos_any (t : Nat) (w : World) :
    Calls Tryd.prog 28 #[.float .f64 t] w fun e w' => e = .returned (.int .i64 (dosT t)) ∧ Below w.heap.size w w' := by
  cases hn : isNaN t
  case true =>
    have e1 := self_nan hn
    have HP : Hid (dosT t = 0) := Lib.hid (by unfold dosT; rw [hn]; rfl)
    rw [HP.out]
    clear hn HP
    go_enter Tryd.func28, Tryd.ntmps28
    go_wp2_with fail
    go_ret
    exact ⟨rfl, Below.refl _ _⟩
  have e1 := self_num hn
  have hP : dosT t = dosZ (secT t) := by unfold dosT; rw [hn]; rfl
  by_cases hlo : K t < 161552793600 * (Q : Int)
  · have e2 : (FloatKind.f64.format.order t 4734073370679705600 == some .lt) = true := by rw [f_lt, hn, n_first, K_first, decide_eq_true hlo]; rfl
    have hs : secT t = 315532800 := by have := (lt_iff t _).1 hlo; unfold secT; omega
    rw [hP, hs]
    clear hP hs hn hlo
    exact dos_lo t w e1 e2
  have e2 : (FloatKind.f64.format.order t 4734073370679705600 == some .lt) = false := by rw [f_lt, hn, n_first, K_first, decide_eq_false hlo]; rfl
  by_cases hhi : 2229667429376 * (Q : Int) < K t
  · have e3 : (FloatKind.f64.format.order t 4751360366143864832 == some .gt) = true := by rw [f_gt, hn, n_last, K_last, decide_eq_true hhi]; rfl
    have hs : secT t = 4354819198 := by have := le_par hhi; unfold secT; omega
    rw [hP, hs]
    clear hP hs hn hlo hhi
    exact dos_up t w e1 e2 e3
  have e3 : (FloatKind.f64.format.order t 4751360366143864832 == some .gt) = false := by rw [f_gt, hn, n_last, K_last, decide_eq_false hhi]; rfl
  have hQ := Q_pos
  obtain ⟨hfin, _, hp1, hp2⟩ := in_range hn (by omega) (by omega)
  have hq1 := (ge_iff t 161552793600).1 (by omega)
  have hq2 := par_le (x := t) (c := 2229667429376) (by omega)
  have hs : secT t = par t / 512 := by unfold secT; omega
  have htd : Int.tdiv (K t) (U : Int) = par t / 512 := by
    rw [← sec_eq]
    exact Int.tdiv_eq_ediv_of_nonneg (by omega)
  rw [hP, hs]
  exact dos_hi t w e1 e2 e3 _ (r_int hfin htd (by omega) (by omega)) (by omega) (by omega)
end Go.Proofs.YtehlgnjbmdaakaaDoor.ClkC

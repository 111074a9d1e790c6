import Derived.Test.YtdbcendnibgcaaaGreatDoorRows
import Derived.Test.YtdbcendnibgcaaaGreatDoorMgAa
import Derived.Test.YtdbcendnibgcaaaGreatDoorMgAe
import Derived.Laws.Externs
import Derived.Laws.Rows
import Derived.Laws.CopyOwn
import Derived.Test.YtdbcendnibgcaaaGreatDoorMgAc
import Derived.Laws.StructEq

section
namespace Go.Proofs.YtdbcendnibgcaaaGreatDoor.ClkC
open Go.RowKit Go.My Flt

theorem ret_float {a b : Nat} (h : a = b) : Ending.returned (.float .f64 a) = .returned (.float .f64 b) := by rw [h]
theorem f_eq (x y : Nat) : (FloatKind.f64.format.order x y == some .eq) = (!isNaN x && !isNaN y && decide (K x = K y)) := cmp_eq x y
theorem f_ne (x y : Nat) : (FloatKind.f64.format.order x y != some .eq) = !(!isNaN x && !isNaN y && decide (K x = K y)) := by rw [← f_eq]; rfl
theorem f_lt (x y : Nat) : (FloatKind.f64.format.order x y == some .lt) = (!isNaN x && !isNaN y && decide (K x < K y)) := cmp_lt x y
theorem f_gt (x y : Nat) : (FloatKind.f64.format.order x y == some .gt) = (!isNaN x && !isNaN y && decide (K y < K x)) := cmp_gt x y
theorem f_le (x y : Nat) : (FloatKind.f64.format.order x y == some .lt || FloatKind.f64.format.order x y == some .eq) = (!isNaN x && !isNaN y && decide (K x ≤ K y)) := by
  rw [f_lt, f_eq]
  cases isNaN x <;> cases isNaN y <;> simp
  rw [Bool.eq_iff_iff]; simp; omega
theorem f_ge (x y : Nat) : (FloatKind.f64.format.order x y == some .gt || FloatKind.f64.format.order x y == some .eq) = (!isNaN x && !isNaN y && decide (K y ≤ K x)) := by
  rw [f_gt, f_eq]
  cases isNaN x <;> cases isNaN y <;> simp
  rw [Bool.eq_iff_iff]; simp; omega
theorem r_mul {x y r : Nat} (h : D.mul x y = some r) (w : World) : (binOp .mul 33 (.float .f64 x) (.float .f64 y)).run Tryz.prog w = .ok (.float .f64 r) w := run_float_arith w .mul _ .f64 x y r h
theorem r_div {x y r : Nat} (h : D.div x y = some r) (w : World) : (binOp .quo 33 (.float .f64 x) (.float .f64 y)).run Tryz.prog w = .ok (.float .f64 r) w := run_float_arith w .quo _ .f64 x y r h
theorem r_add {x y r : Nat} (h : D.add x y = some r) (w : World) : (binOp .add 33 (.float .f64 x) (.float .f64 y)).run Tryz.prog w = .ok (.float .f64 r) w := run_float_arith w .add _ .f64 x y r h
theorem r_sub {x y r : Nat} (h : D.sub x y = some r) (w : World) : (binOp .sub 33 (.float .f64 x) (.float .f64 y)).run Tryz.prog w = .ok (.float .f64 r) w := run_float_arith w .sub _ .f64 x y r h

abbrev nanW : Nat := 9221120237041090561
theorem isNaN_nanW : isNaN nanW = true := by decide
theorem k_lo : fl (-4398046511104) = 13979173243358019584 := by decide +kernel
theorem k_hi : fl 4398046511104 = 4755801206503243776 := by decide +kernel
theorem k_u : fl 2199023255040 = 4751297606873776128 := by decide +kernel
theorem K_lo : K 13979173243358019584 = -4398046511104 * (Q : Int) := by rw [← k_lo]; exact K_fl _ (by decide)
theorem K_hi : K 4755801206503243776 = 4398046511104 * (Q : Int) := by rw [← k_hi]; exact K_fl _ (by decide)
theorem K_u : K 4751297606873776128 = 2199023255040 * (Q : Int) := by rw [← k_u]; exact K_fl _ (by decide)
theorem K_0 : K 0 = 0 := by have := K_fl 0 (by decide); rw [fl_zero] at this; omega
theorem n_lo : isNaN 13979173243358019584 = false := by rw [← k_lo]; exact isNaN_fl _ (by decide)
theorem n_hi : isNaN 4755801206503243776 = false := by rw [← k_hi]; exact isNaN_fl _ (by decide)
theorem n_u : isNaN 4751297606873776128 = false := by rw [← k_u]; exact isNaN_fl _ (by decide)
theorem n_0 : isNaN 0 = false := by decide

theorem self_nan {t : Nat} (h : isNaN t = true) : (FloatKind.f64.format.order t t != some .eq) = true := by rw [f_ne, h]; rfl
theorem self_num {t : Nat} (h : isNaN t = false) : (FloatKind.f64.format.order t t != some .eq) = false := by rw [f_ne, h]; simp
theorem self_nan' {t : Nat} (h : isNaN t = true) : (FloatKind.f64.format.order t t == some .eq) = false := by rw [f_eq, h]; rfl
theorem self_num' {t : Nat} (h : isNaN t = false) : (FloatKind.f64.format.order t t == some .eq) = true := by rw [f_eq, h]; simp

noncomputable def fineP (t : Nat) : Int := if isNaN t then 0 else max (-4398046511104) (min 4398046511104 (par t))
theorem fineP_le (t : Nat) : -4398046511104 ≤ fineP t ∧ fineP t ≤ 4398046511104 := by unfold fineP; split <;> omega

theorem in_range {t : Nat} (hn : isNaN t = false) (h1 : -4398046511104 * (Q : Int) ≤ K t) (h2 : K t ≤ 4398046511104 * (Q : Int)) : fin t ∧ (K t).natAbs ≤ 2 ^ 43 * Q ∧ -4398046511104 ≤ par t ∧ par t ≤ 4398046511104 := by
  have hQ := Q_pos
  have hbig : 4398046511104 * (Q : Int) < (big : Int) := by
    have h : 4398046511104 * Q < big := by
      unfold Q big
      rw [show (4398046511104 : Nat) = 2 ^ 42 from rfl, ← Nat.pow_add]
      exact Nat.pow_lt_pow_right (by omega) (by rw [e1065_eq, e2200_eq]; omega)
    have := Int.ofNat_lt.2 h
    rwa [Int.natCast_mul] at this
  refine ⟨fin_of_K hn (by omega) (by omega), ?_, (ge_iff _ _).1 h1, par_le h2⟩
  rw [show (2 : Nat) ^ 43 = 8796093022208 from rfl]
  omega

end Go.Proofs.YtdbcendnibgcaaaGreatDoor.ClkC
end

section
/-
  The proleptic Gregorian calendar as plain arithmetic: no program, no dump.
-/
namespace Go.My.Clk

abbrev Leap (y : Int) : Prop := y % 4 = 0 ∧ (y % 100 ≠ 0 ∨ y % 400 = 0)
def lp (y : Int) : Int := if Leap y then 1 else 0
theorem lp_01 (y : Int) : lp y = 0 ∨ lp y = 1 := by unfold lp; split <;> simp
/-- Days of a month. -/
def mlen (y m : Int) : Int := if m = 2 then 28 + lp y else if m = 4 ∨ m = 6 ∨ m = 9 ∨ m = 11 then 30 else 31
/-- Days ahead of a month in its year. -/
def cumT (m : Int) : Int := if m ≤ 1 then 0 else if m = 2 then 31 else if m = 3 then 59 else if m = 4 then 90 else if m = 5 then 120 else if m = 6 then 151 else if m = 7 then 181 else if m = 8 then 212 else if m = 9 then 243 else if m = 10 then 273 else if m = 11 then 304 else if m = 12 then 334 else 365
def cum (y m : Int) : Int := cumT m + (if m ≤ 2 then 0 else lp y)
def ahead (y : Int) : Int := y * 365 + (y - 1) / 4 - (y - 1) / 100 + (y - 1) / 400 + 1
/-- Days from 1970 to a year's beginning. -/
def d2 (y : Int) : Int := ahead y - 719528
def days (y m d : Int) : Int := d2 y + cum y m + (d - 1)
abbrev Valid (y m d : Int) : Prop := 1 ≤ m ∧ m ≤ 12 ∧ 1 ≤ d ∧ d ≤ mlen y m

theorem ahead_1970 : ahead 1970 = 719528 := by decide
theorem lp_eq (y : Int) : lp y = y / 4 - (y - 1) / 4 - (y / 100 - (y - 1) / 100) + (y / 400 - (y - 1) / 400) := by unfold lp Leap; split <;> omega
theorem d2_next (y : Int) : d2 (y + 1) = d2 y + 365 + lp y := by rw [lp_eq]; unfold d2 ahead; omega
theorem d2_mono {y z : Int} (h : y ≤ z) : d2 y ≤ d2 z := by unfold d2 ahead; omega
theorem cum_next (y m : Int) (h1 : 1 ≤ m) (h2 : m ≤ 12) : cum y (m + 1) = cum y m + mlen y m := by
  have : m = 1 ∨ m = 2 ∨ m = 3 ∨ m = 4 ∨ m = 5 ∨ m = 6 ∨ m = 7 ∨ m = 8 ∨ m = 9 ∨ m = 10 ∨ m = 11 ∨ m = 12 := by omega
  rcases this with rfl | rfl | rfl | rfl | rfl | rfl | rfl | rfl | rfl | rfl | rfl | rfl <;> unfold cum cumT mlen <;> simp <;> omega
theorem cum_one (y : Int) : cum y 1 = 0 := by unfold cum cumT; simp
theorem cum_13 (y : Int) : cum y 13 = 365 + lp y := by unfold cum cumT; simp
theorem mlen_pos (y m : Int) : 28 ≤ mlen y m ∧ mlen y m ≤ 31 := by unfold mlen; have := lp_01 y; split <;> (try split) <;> omega
theorem cum_mono (y : Int) {m n : Int} (h1 : 1 ≤ m) (h : m ≤ n) (h2 : n ≤ 13) : cum y m ≤ cum y n := by
  obtain ⟨k, hk⟩ : ∃ k : Nat, n = m + k := ⟨(n - m).toNat, by omega⟩
  subst hk
  induction k with
  | zero => simp
  | succ k ih =>
    have h3 := ih (by omega) (by omega)
    have h4 := cum_next y (m + k) (by omega) (by omega)
    have h5 := (mlen_pos y (m + k)).1
    rw [show m + ((k + 1 : Nat) : Int) = m + k + 1 by omega]
    omega
theorem year_of {y m d : Int} (h : Valid y m d) : d2 y ≤ days y m d ∧ days y m d < d2 (y + 1) := by
  obtain ⟨h1, h2, h3, h4⟩ := h
  have a1 := cum_mono y (m := 1) (n := m) (by omega) h1 (by omega)
  have a2 := cum_mono y (m := m + 1) (n := 13) (by omega) (by omega) (by omega)
  rw [cum_one] at a1
  rw [cum_next y m h1 h2, cum_13] at a2
  have a3 := d2_next y
  unfold days
  omega

/-- A later date has more days. -/
theorem days_lt {y m d y' m' d' : Int} (h : Valid y m d) (h' : Valid y' m' d') (hlt : y < y' ∨ (y = y' ∧ m < m') ∨ (y = y' ∧ m = m' ∧ d < d')) : days y m d < days y' m' d' := by
  rcases hlt with hy | ⟨rfl, hm⟩ | ⟨rfl, rfl, hd⟩
  · have a1 := year_of h
    have a2 := year_of h'
    have a3 := d2_mono (show y + 1 ≤ y' by omega)
    omega
  · obtain ⟨h1, h2, h3, h4⟩ := h
    have a2 := cum_mono y (m := m + 1) (n := m') (by omega) (by omega) (by omega)
    rw [cum_next y m h1 h2] at a2
    unfold days
    omega
  · unfold days; omega
theorem days_inj {y m d y' m' d' : Int} (h : Valid y m d) (h' : Valid y' m' d') (he : days y m d = days y' m' d') : y = y' ∧ m = m' ∧ d = d' := by
  have a := fun x => days_lt h h' x
  have b := fun x => days_lt h' h x
  refine ⟨?_, ?_, ?_⟩
  · by_cases h1 : y < y'
    · have := a (.inl h1); omega
    · by_cases h2 : y' < y
      · have := b (.inl h2); omega
      · omega
  all_goals
    have hy : y = y' := by
      by_cases h1 : y < y'
      · have := a (.inl h1); omega
      · by_cases h2 : y' < y
        · have := b (.inl h2); omega
        · omega
    have hm : m = m' := by
      by_cases h1 : m < m'
      · have := a (.inr (.inl ⟨hy, h1⟩)); omega
      · by_cases h2 : m' < m
        · have := b (.inr (.inl ⟨hy.symm, h2⟩)); omega
        · omega
    first
      | exact hm
      | (by_cases h1 : d < d'
         · have := a (.inr (.inr ⟨hy, hm, h1⟩)); omega
         · by_cases h2 : d' < d
           · have := b (.inr (.inr ⟨hy.symm, hm.symm, h2⟩)); omega
           · omega)

/-- The program's sum of days. -/
def bm (m : Int) : Int := (m * 153 + 2) / 5
theorem days_hi (y m d : Int) (h1 : 3 ≤ m) (h2 : m ≤ 12) : (y + 100400) * 365 + (y + 100400) / 4 - (y + 100400) / 100 + (y + 100400) / 400 + bm (m - 3) + d - 1 - 37389815 = days y m d := by
  have e := lp_eq y
  have : m = 3 ∨ m = 4 ∨ m = 5 ∨ m = 6 ∨ m = 7 ∨ m = 8 ∨ m = 9 ∨ m = 10 ∨ m = 11 ∨ m = 12 := by omega
  rcases this with rfl | rfl | rfl | rfl | rfl | rfl | rfl | rfl | rfl | rfl <;> unfold days d2 ahead cum cumT bm <;> simp <;> omega
theorem days_lo (y m d : Int) (h1 : 1 ≤ m) (h2 : m < 3) : (y + 100400 - 1) * 365 + (y + 100400 - 1) / 4 - (y + 100400 - 1) / 100 + (y + 100400 - 1) / 400 + bm (m + 12 - 3) + d - 1 - 37389815 = days y m d := by
  have : m = 1 ∨ m = 2 := by omega
  rcases this with rfl | rfl <;> unfold days d2 ahead cum cumT bm <;> simp <;> omega

/-- The program's date of a day (counted from its own beginning). -/
def yoe (doe : Int) : Int := (doe - doe / 1460 + doe / 36524 - doe / 146096) / 365
def doy (doe : Int) : Int := doe - (yoe doe * 365 + yoe doe / 4 - yoe doe / 100)
theorem yoe_core (doe k j d c g : Int) (h0 : 0 ≤ doe) (h1 : doe < 146097) (hj : j = 0 ∨ j = 1 ∨ j = 2 ∨ j = 3) (hd : d = 0 ∨ d = 1 ∨ d = 2 ∨ d = 3)
    (hc : c = 0 ∨ c = 1 ∨ c = 2 ∨ c = 3 ∨ c = 4) (hk : 0 ≤ k - 25 * d ∧ k - 25 * d ≤ 24) (hcc : 0 ≤ doe - 36524 * c ∧ doe - 36524 * c ≤ 36523) (hg : (g = 0 ∧ doe < 146096) ∨ (g = 1 ∧ doe = 146096))
    (hy : 0 ≤ doe - doe / 1460 + c - g - 365 * (4 * k + j) ∧ doe - doe / 1460 + c - g - 365 * (4 * k + j) ≤ 364) :
    0 ≤ doe - ((4 * k + j) * 365 + k - d) ∧ doe - ((4 * k + j) * 365 + k - d) ≤ (if j = 3 ∧ (k - 25 * d ≠ 24 ∨ d = 3) then 365 else 364) := by
  rcases hd with rfl | rfl | rfl | rfl <;> rcases hc with rfl | rfl | rfl | rfl | rfl <;> rcases hj with rfl | rfl | rfl | rfl <;> omega
theorem yoe_ok (doe : Int) (h0 : 0 ≤ doe) (h1 : doe < 146097) : 0 ≤ yoe doe ∧ yoe doe ≤ 399 ∧ 0 ≤ doy doe ∧ doy doe ≤ 364 + lp (yoe doe + 1) := by
  have hy : 0 ≤ yoe doe ∧ yoe doe ≤ 399 := by unfold yoe; omega
  have a1 : 0 ≤ doe - doe / 1460 + doe / 36524 - doe / 146096 - 365 * yoe doe ∧ doe - doe / 1460 + doe / 36524 - doe / 146096 - 365 * yoe doe ≤ 364 := by unfold yoe; omega
  have e1 : yoe doe / 100 = yoe doe / 4 / 25 := by omega
  have e2 : yoe doe = 4 * (yoe doe / 4) + yoe doe % 4 := by omega
  have h := yoe_core doe (yoe doe / 4) (yoe doe % 4) (yoe doe / 100) (doe / 36524) (doe / 146096) h0 h1 (by omega) (by omega) (by omega) (by omega) (by omega) (by omega) (by rw [← e2]; exact a1)
  rw [← e2] at h
  refine ⟨hy.1, hy.2, h.1, ?_⟩
  have h2 := h.2
  unfold doy
  unfold lp Leap
  generalize yoe doe = y at *
  split at h2 <;> split <;> omega

theorem mp_ok (l v : Int) (hl : l = 0 ∨ l = 1) (h0 : 0 ≤ v) (h1 : v ≤ 364 + l) : 0 ≤ (v * 5 + 2) / 153 ∧ (v * 5 + 2) / 153 ≤ 11 ∧ 0 ≤ v - bm ((v * 5 + 2) / 153) := by
  unfold bm; omega

/-- Of the day n, counted from the program's beginning: its year, month and day. -/
def mp (doe : Int) : Int := (doy doe * 5 + 2) / 153
def yy (n : Int) : Int := yoe (n % 146097) + n / 146097 * 400 - 100400 + (if 12 < mp (n % 146097) + 3 then 1 else 0)
def mm (n : Int) : Int := if 12 < mp (n % 146097) + 3 then mp (n % 146097) + 3 - 12 else mp (n % 146097) + 3
def dd (n : Int) : Int := doy (n % 146097) - bm (mp (n % 146097)) + 1
theorem date_ok (n : Int) : Valid (yy n) (mm n) (dd n) ∧ days (yy n) (mm n) (dd n) = n - 37389815 := by
  have h := yoe_ok (n % 146097) (by omega) (by omega)
  have hd : doy (n % 146097) = n % 146097 - (yoe (n % 146097) * 365 + yoe (n % 146097) / 4 - yoe (n % 146097) / 100) := rfl
  obtain ⟨era, hera⟩ : ∃ e, e = n / 146097 := ⟨_, rfl⟩
  have hn : n = 146097 * era + n % 146097 := by omega
  unfold yy mm dd
  rw [← hera]
  generalize n % 146097 = doe at *
  have hl : lp (yoe doe + 1) = lp (yoe doe + era * 400 - 100400 + 1) := by rw [lp_eq, lp_eq]; omega
  rw [hl] at h
  have hl2 := lp_eq (yoe doe + era * 400 - 100400 + 1)
  have hl3 := lp_01 (yoe doe + era * 400 - 100400 + 1)
  unfold mp
  have hm := mp_ok (lp (yoe doe + era * 400 - 100400 + 1)) (doy doe) hl3 h.2.2.1 h.2.2.2
  have hb : bm ((doy doe * 5 + 2) / 153) = ((doy doe * 5 + 2) / 153 * 153 + 2) / 5 := rfl
  have hmp : (doy doe * 5 + 2) / 153 * 153 ≤ doy doe * 5 + 2 ∧ doy doe * 5 + 2 < (doy doe * 5 + 2) / 153 * 153 + 153 := by omega
  generalize (doy doe * 5 + 2) / 153 = q at *
  generalize doy doe = v at *
  generalize yoe doe = y at *
  generalize hL : lp (y + era * 400 - 100400 + 1) = l at *
  have hq : q = 0 ∨ q = 1 ∨ q = 2 ∨ q = 3 ∨ q = 4 ∨ q = 5 ∨ q = 6 ∨ q = 7 ∨ q = 8 ∨ q = 9 ∨ q = 10 ∨ q = 11 := by omega
  have key : v - bm q + 1 ≤ mlen (y + era * 400 - 100400 + (if 12 < q + 3 then 1 else 0)) (if 12 < q + 3 then q + 3 - 12 else q + 3) := by
    rcases hq with rfl | rfl | rfl | rfl | rfl | rfl | rfl | rfl | rfl | rfl | rfl | rfl <;> unfold mlen bm at * <;> simp <;> omega
  refine ⟨⟨by split <;> omega, by split <;> omega, by omega, key⟩, ?_⟩
  clear key hl hl2 hl3 hL
  have z1 : (y + era * 400) / 4 = y / 4 + era * 100 := by omega
  have z2 : (y + era * 400) / 100 = y / 100 + era * 4 := by omega
  have z3 : (y + era * 400) / 400 = era := by omega
  by_cases hq2 : 12 < q + 3
  · rw [if_pos hq2, if_pos hq2, ← days_lo _ _ _ (by omega) (by omega)]
    rw [show q + 3 - 12 + 12 - 3 = q by omega, show y + era * 400 - 100400 + 1 + 100400 - 1 = y + era * 400 by omega, z1, z2, z3]
    omega
  · rw [if_neg hq2, if_neg hq2, ← days_hi _ _ _ (by omega) (by omega)]
    rw [show q + 3 - 3 = q by omega, show y + era * 400 - 100400 + 0 + 100400 = y + era * 400 by omega, z1, z2, z3]
    omega
end Go.My.Clk
end

section
namespace Go.Proofs.YtdbcendnibgcaaaGreatDoor.ClkC
open Go.RowKit Go.My Clk

def daysF (y m d : Int) : Int := if y < -100000 ∨ 100000 < y ∨ m < 1 ∨ 12 < m ∨ d < 1 ∨ 31 < d then 0 else days y m d
/-- A date as the program holds it. -/
def dateV (y m d h mi s : Int) : Value := .agg #[.int .i64 y, .int .i64 m, .int .i64 d, .int .i64 h, .int .i64 mi, .int .i64 s]
def dayN (s : Int) : Int := (s + 3230480016000) / 86400
def restN (s : Int) : Int := (s + 3230480016000) % 86400
def dateOf (s : Int) : Value := dateV (yy (dayN s)) (mm (dayN s)) (dd (dayN s)) (restN s / 3600) (restN s / 60 % 60) (restN s % 60)
def dateF (s : Int) : Value := if s < -1099511627776 ∨ 1099511627776 < s then dateV 0 0 0 0 0 0 else dateOf s

theorem alloc_below (w : World) (o : Obj) : Below w.heap.size w (w.alloc o) := (Below.refl _ w).alloc (Nat.le_refl _) o

theorem date_eq {y m d h mi s y' m' d' h' mi' s' : Int} (h1 : y = y') (h2 : m = m') (h3 : d = d') (h4 : h = h') (h5 : mi = mi') (h6 : s = s') :
    Ending.returned (.agg #[.int .i64 y, .int .i64 m, .int .i64 d, .int .i64 h, .int .i64 mi, .int .i64 s]) = .returned (dateV y' m' d' h' mi' s') := by
  rw [h1, h2, h3, h4, h5, h6]; rfl
end Go.Proofs.YtdbcendnibgcaaaGreatDoor.ClkC
end

section
namespace Go.Proofs.YtdbcendnibgcaaaGreatDoor.ClkC
open Go.RowKit Go.My Clk

theorem tfloor (a b : Int) (hb : 0 < b) (ha : -2000000000000 ≤ a) (ha2 : a ≤ 2000000000000) : -2000000000000 ≤ Int.tdiv a b ∧ Int.tdiv a b ≤ 2000000000000 ∧ a / b = (if Int.tmod a b < 0 then Int.tdiv a b - 1 else Int.tdiv a b) := by
  by_cases h : 0 ≤ a
  · rw [Int.tdiv_eq_ediv_of_nonneg h, Int.tmod_eq_emod_of_nonneg h]
    have h1 := Int.emod_nonneg a (show b ≠ 0 by omega)
    have h2 := Int.ediv_nonneg h (Int.le_of_lt hb)
    have h3 := Int.ediv_le_self b h
    rw [if_neg (by omega)]
    omega
  · obtain ⟨c, rfl⟩ : ∃ c, a = -c := ⟨-a, by omega⟩
    have hc : 0 ≤ c := by omega
    rw [Int.neg_tdiv, Int.neg_tmod, Int.tdiv_eq_ediv_of_nonneg hc, Int.tmod_eq_emod_of_nonneg hc]
    have h0 := Int.mul_ediv_add_emod c b
    have h1 := Int.emod_nonneg c (show b ≠ 0 by omega)
    have h2 := Int.ediv_nonneg hc (Int.le_of_lt hb)
    have h3 := Int.ediv_le_self b hc
    have h4 := Int.emod_lt_of_pos c hb
    refine ⟨by omega, by omega, ?_⟩
    generalize c / b = q at *
    generalize c % b = r at *
    by_cases hr : r = 0
    · rw [if_neg (by omega), show -c = b * (-q) by rw [Int.mul_neg]; omega, Int.mul_ediv_cancel_left _ (by omega)]
    · rw [if_pos (by omega), show -c = (b - r) + b * (-q - 1) by rw [Int.mul_sub, Int.mul_neg]; omega, Int.add_mul_ediv_left _ _ (by omega), Int.ediv_eq_zero_of_lt (by omega) (by omega)]
      omega
theorem ret_bool {a b : Bool} (h : a = b) : Ending.returned (.bool a) = .returned (.bool b) := by rw [h]
theorem tmod0 (y b : Int) : Int.tmod y b = 0 ↔ y % b = 0 := by
  rw [← Int.dvd_iff_tmod_eq_zero, ← Int.dvd_iff_emod_eq_zero]
end Go.Proofs.YtdbcendnibgcaaaGreatDoor.ClkC
end

section
namespace Go.Proofs.YtdbcendnibgcaaaGreatDoor.ClkC
open Go.RowKit Go.My Clk

/-- A year is found from any beginning. -/
theorem year_at {y n : Int} (h1 : d2 y ≤ n) (h2 : n < d2 (y + 1)) {y' : Int} (h3 : d2 y' ≤ n) (h4 : n < d2 (y' + 1)) : y = y' := by
  by_cases h : y < y'
  · have := d2_mono (show y + 1 ≤ y' by omega); omega
  · by_cases h' : y' < y
    · have := d2_mono (show y' + 1 ≤ y by omega); omega
    · omega

def zeros6 : Array Value := #[.int .i64 0, .int .i64 0, .int .i64 0, .int .i64 0, .int .i64 0, .int .i64 0]

theorem below_own {w w2 : World} {o : Obj} (h : Below (w.heap.size + 1) (w.alloc o) w2) (cs : Array Value) : Below w.heap.size w (w2.setRow w.heap.size cs) :=
  below_setRow ((alloc_below w o).trans (h.mono (Nat.le_succ _))) (Nat.le_refl _) cs

/-- Where the year's search begins. -/
theorem search_from (n : Int) : (0 ≤ n → d2 (1970 + n / 366) ≤ n) ∧ (n < 0 → d2 (1970 + n / 365) ≤ n) := by
  unfold d2 Clk.ahead
  omega

theorem date_facts (s : Int) (h0 : -1099511627776 ≤ s) (h1 : s ≤ 1099511627776) :
    ∃ n r Y M D : Int, yy (dayN s) = Y ∧ mm (dayN s) = M ∧ dd (dayN s) = D ∧ restN s = r ∧ n = s / 86400 ∧ s - n * 86400 = r ∧ 0 ≤ r ∧ r < 86400 ∧ -13000000 ≤ n ∧ n ≤ 13000000 ∧ -100000 ≤ Y ∧ Y ≤ 100000 ∧ Valid Y M D ∧ d2 Y ≤ n ∧ n < d2 (Y + 1) ∧ n - d2 Y = cum Y M + (D - 1) := by
  have hok := date_ok (dayN s)
  have hn : dayN s - 37389815 = s / 86400 := by unfold dayN; omega
  have hr : restN s = s % 86400 := by unfold restN; omega
  rw [hn] at hok
  obtain ⟨hv, hd⟩ := hok
  have hyr := year_of hv
  rw [hd] at hyr
  refine ⟨s / 86400, s % 86400, yy (dayN s), mm (dayN s), dd (dayN s), rfl, rfl, rfl, hr, rfl, by omega, by omega, by omega, by omega, by omega, ?_, ?_, hv, hyr.1, hyr.2, ?_⟩
  · have h2 := hyr.2
    unfold d2 Clk.ahead at h2
    omega
  · have h2 := hyr.1
    unfold d2 Clk.ahead at h2
    omega
  · unfold days at hd
    omega
theorem start_ok (n k : Int) (h : (k = n / 366 ∧ 0 ≤ n) ∨ (k = n / 365 ∧ n < 0)) : d2 (1970 + k) ≤ n := by
  rcases h with ⟨rfl, h⟩ | ⟨rfl, h⟩
  · exact (search_from n).1 h
  · exact (search_from n).2 h

end Go.Proofs.YtdbcendnibgcaaaGreatDoor.ClkC
end

section
namespace Go.Proofs.YtdbcendnibgcaaaGreatDoor.ClkC
open Go.RowKit Go.My Clk

def Box6 (b : Nat) (v1 v2 v3 v4 v5 v6 : Int) (w' : World) : Prop :=
  w'.cell? ⟨b, 0, none⟩ = some (.int .i64 v1) ∧ w'.cell? ⟨b, 1, none⟩ = some (.int .i64 v2) ∧ w'.cell? ⟨b, 2, none⟩ = some (.int .i64 v3) ∧
  w'.cell? ⟨b, 3, none⟩ = some (.int .i64 v4) ∧ w'.cell? ⟨b, 4, none⟩ = some (.int .i64 v5) ∧ w'.cell? ⟨b, 5, none⟩ = some (.int .i64 v6)
theorem dateV_inj {a1 a2 a3 a4 a5 a6 b1 b2 b3 b4 b5 b6 : Int} (h : dateV a1 a2 a3 a4 a5 a6 = dateV b1 b2 b3 b4 b5 b6) : a1 = b1 ∧ a2 = b2 ∧ a3 = b3 ∧ a4 = b4 ∧ a5 = b5 ∧ a6 = b6 := by
  unfold dateV at h
  injection h with h
  have := congrArg Array.toList h
  simpa using this
theorem date_letters (x : Int) : ∃ y m d h mi s : Int, dateF x = dateV y m d h mi s ∧ ((-1099511627776 ≤ x ∧ x ≤ 1099511627776 ∧ Valid y m d ∧ days y m d = x / 86400 ∧ h = x % 86400 / 3600 ∧ mi = x % 86400 / 60 % 60 ∧ s = x % 86400 % 60 ∧ -100000 ≤ y ∧ y ≤ 100000) ∨ (y = 0 ∧ (x < -1099511627776 ∨ 1099511627776 < x))) := by
  unfold dateF
  by_cases h : x < -1099511627776 ∨ 1099511627776 < x
  · rw [if_pos h]; exact ⟨0, 0, 0, 0, 0, 0, rfl, .inr ⟨rfl, h⟩⟩
  · rw [if_neg h]
    obtain ⟨n, r, Y, M, D, e1, e2, e3, e4, hn2, hs, hr3, hr4, hn3, hn4, hY1, hY2, hv, hd1, hd2, hd3⟩ := date_facts x (by omega) (by omega)
    refine ⟨Y, M, D, r / 3600, r / 60 % 60, r % 60, by unfold dateOf; rw [e1, e2, e3, e4], .inl ⟨by omega, by omega, hv, by unfold days; omega, by rw [show x % 86400 = r by omega], by rw [show x % 86400 = r by omega], by rw [show x % 86400 = r by omega], hY1, hY2⟩⟩
abbrev ValidT (y m d h mi s : Int) : Prop := 1 ≤ y ∧ y ≤ 9999 ∧ Valid y m d ∧ 0 ≤ h ∧ h ≤ 23 ∧ 0 ≤ mi ∧ mi ≤ 59 ∧ 0 ≤ s ∧ s ≤ 59
def secV (y m d h mi s : Int) : Int := if ValidT y m d h mi s then days y m d * 86400 + h * 3600 + mi * 60 + s else 0
def secB (y m d h mi s : Int) : Bool := decide (ValidT y m d h mi s)

theorem days_small {y m d : Int} (hy : 1 ≤ y) (hy2 : y ≤ 9999) (hv : Valid y m d) : -800000 ≤ days y m d ∧ days y m d ≤ 3000000 := by
  have h := year_of hv
  have a1 := d2_mono (show 1 ≤ y by omega)
  have a2 := d2_mono (show y + 1 ≤ 10000 by omega)
  have e1 : d2 1 = -719162 := by decide
  have e2 : d2 10000 = 2932897 := by decide
  omega
/-- A date that there is has a time, which has that date. -/
theorem valid_date {y m d h mi s : Int} (hv : ValidT y m d h mi s) : dateF (days y m d * 86400 + h * 3600 + mi * 60 + s) = dateV y m d h mi s := by
  obtain ⟨hy, hy2, hv, h1, h2, h3, h4, h5, h6⟩ := hv
  obtain ⟨b1, b2⟩ := days_small hy hy2 hv
  obtain ⟨y', m', d', h', mi', s', hF, hC⟩ := date_letters (days y m d * 86400 + h * 3600 + mi * 60 + s)
  rw [hF]
  rcases hC with ⟨_, _, hv', hd', e4, e5, e6, _, _⟩ | hC
  · have q : (days y m d * 86400 + h * 3600 + mi * 60 + s) / 86400 = days y m d := by omega
    have r : (days y m d * 86400 + h * 3600 + mi * 60 + s) % 86400 = h * 3600 + mi * 60 + s := by omega
    rw [q] at hd'
    rw [r] at e4 e5 e6
    obtain ⟨rfl, rfl, rfl⟩ := days_inj hv' hv hd'
    obtain rfl : h' = h := by omega
    obtain rfl : mi' = mi := by omega
    obtain rfl : s' = s := by omega
    rfl
  · omega
/-- Whatever has such a date is its time. -/
theorem date_valid {x y m d h mi s : Int} (hy : 1 ≤ y) (hy2 : y ≤ 9999) (hF : dateF x = dateV y m d h mi s) : ValidT y m d h mi s ∧ x = days y m d * 86400 + h * 3600 + mi * 60 + s := by
  obtain ⟨y', m', d', h', mi', s', hF', hC⟩ := date_letters x
  rw [hF'] at hF
  obtain ⟨e1, e2, e3, e4, e5, e6⟩ := dateV_inj hF
  subst e1 e2 e3 e4 e5 e6
  rcases hC with ⟨_, _, hv', hd', e4, e5, e6, _, _⟩ | hC
  · refine ⟨⟨hy, hy2, hv', by omega, by omega, by omega, by omega, by omega, by omega⟩, ?_⟩
    rw [hd', e4, e5, e6]
    omega
  · omega

abbrev agg6 (a1 a2 a3 a4 a5 a6 : Int) : Value := .agg #[.int .i64 a1, .int .i64 a2, .int .i64 a3, .int .i64 a4, .int .i64 a5, .int .i64 a6]
theorem drewN_below {B : Nat} {a w : World} (h : Below B a w) (n : Nat) : Below B a (w.drewN n) := ⟨h.os, h.tape, h.output, h.size, h.block⟩

theorem ret_yes {a b : Int} {c d : Bool} (h : a = b) (h2 : c = d) : Ending.returned (.tuple #[.int .i64 a, .bool c]) = .returned (.tuple #[.int .i64 b, .bool d]) := by rw [h, h2]

end Go.Proofs.YtdbcendnibgcaaaGreatDoor.ClkC
end

section
namespace Go.Proofs.YtdbcendnibgcaaaGreatDoor.ClkC
open Go.RowKit Go.My Flt Clk

theorem k_first : fl 161552793600 = 4734073370679705600 := by decide +kernel
theorem k_last : fl 2229667429376 = 4751360366143864832 := by decide +kernel
theorem K_first : K 4734073370679705600 = 161552793600 * (Q : Int) := by rw [← k_first]; exact K_fl _ (by decide)
theorem K_last : K 4751360366143864832 = 2229667429376 * (Q : Int) := by rw [← k_last]; exact K_fl _ (by decide)
theorem n_first : isNaN 4734073370679705600 = false := by rw [← k_first]; exact isNaN_fl _ (by decide)
theorem n_last : isNaN 4751360366143864832 = false := by rw [← k_last]; exact isNaN_fl _ (by decide)

theorem r_int {x : Nat} {n : Int} (hx : fin x) (h : Int.tdiv (K x) (U : Int) = n) (h1 : -9223372036854775808 ≤ n) (h2 : n ≤ 9223372036854775807) (w : World) :
    (convert 33 3 (.float .f64 x)).run Tryz.prog w = .ok (.int .i64 n) w := by
  refine run_convert_float_int w _ _ .f64 .i64 x n (by kernel_rfl) Tryz.underlying3 ?_
  have ht : (FloatKind.f64.decode x).toInt .zero = some n := by rw [← h]; exact toInt_K x hx
  unfold floatToIntVal
  simp only [ht]
  rw [if_pos ⟨h1, h2⟩]
theorem r_int_fl (n : Int) (h : (512 * n).natAbs < 9007199254740992) (w : World) :
    (convert 33 3 (.float .f64 (fl (512 * n)))).run Tryz.prog w = .ok (.int .i64 n) w := by
  refine r_int (fin_fl _ h) ?_ (by omega) (by omega) w
  rw [K_fl _ h]
  have : 512 * n * (Q : Int) = n * (U : Int) := by unfold U; rw [Int.natCast_mul, Int.mul_comm 512 n, Int.mul_assoc]; rfl
  rw [this]
  exact Int.mul_tdiv_cancel _ (by have := U_pos; omega)

theorem i64_or_nat (a b : Nat) (ha : a < 2 ^ 63) (hb : b < 2 ^ 63) : bits .or .i64 (a : Int) (b : Int) = ((a ||| b : Nat) : Int) := by
  have h := Nat.or_lt_two_pow ha hb
  show IntKind.i64.wrap ((BitVec.ofInt 64 (a : Int) ||| BitVec.ofInt 64 (b : Int)).toNat : Int) = _
  rw [BitVec.toNat_or, BitVec.toNat_ofInt, BitVec.toNat_ofInt]
  rw [show ((a : Int) % ((2 ^ 64 : Nat) : Int)).toNat = a from by omega, show ((b : Int) % ((2 ^ 64 : Nat) : Int)).toNat = b from by omega]
  rw [IntKind.wrap_i64]
  omega
theorem i64_join (k : Nat) (a b p : Int) (hp : p = ((2 ^ k : Nat) : Int)) (hk : k ≤ 20) (ha : 0 ≤ a) (ha2 : a ≤ 1000000) (hb0 : 0 ≤ b) (hb : b < p) : bits .or .i64 (a * p) b = a * p + b := by
  obtain ⟨x, rfl⟩ := Int.eq_ofNat_of_zero_le ha
  obtain ⟨y, rfl⟩ := Int.eq_ofNat_of_zero_le hb0
  subst hp
  have h1 : (2 : Nat) ^ k ≤ 2 ^ 20 := Nat.pow_le_pow_right (by omega) hk
  have h2 : x * 2 ^ k ≤ 1000000 * 2 ^ 20 := Nat.mul_le_mul (by omega) h1
  have hy : y < 2 ^ k := by omega
  rw [← Int.natCast_mul, i64_or_nat _ _ (by omega) (by omega), nat_join k _ _ (Nat.mul_mod_left _ _) hy]
  exact Int.natCast_add _ _

/-- A date as MS-DOS packs it. -/
def dosZ (n : Int) : Int := ((yy (dayN n) - 1980) * 512 + mm (dayN n) * 32 + dd (dayN n)) * 65536 + (restN n / 3600 * 2048 + restN n / 60 % 60 * 32 + restN n % 60 / 2)
noncomputable def secT (t : Nat) : Int := max 315532800 (min 4354819198 (par t / 512))

theorem conv_first (w : World) : (convert 33 3 (.float .f64 4734073370679705600)).run Tryz.prog w = .ok (.int .i64 315532800) w := by
  have := r_int_fl 315532800 (by decide) w
  rw [show (512 * 315532800 : Int) = 161552793600 from rfl, k_first] at this
  exact this
theorem conv_last (w : World) : (convert 33 3 (.float .f64 4751360366143864832)).run Tryz.prog w = .ok (.int .i64 4354819198) w := by
  have := r_int_fl 4354819198 (by decide) w
  rw [show (512 * 4354819198 : Int) = 2229667429376 from rfl, k_last] at this
  exact this
theorem dosZ_last : dosZ 4354819199 = dosZ 4354819198 := by decide +kernel
noncomputable def dosT (t : Nat) : Int := if isNaN t then 0 else dosZ (secT t)

end Go.Proofs.YtdbcendnibgcaaaGreatDoor.ClkC
end

section
namespace Go.Proofs.YtdbcendnibgcaaaGreatDoor.ClkC
open Go.RowKit Go.My Flt

theorem nan_cut (t : Nat) : isNaN ((t % 2) * 2 ^ 63 + 0x7ff0000000000000 + 1 + (t / 2) % (2 ^ 52 - 1)) = true := by
  have h1 : t % 2 < 2 := Nat.mod_lt _ (by omega)
  have h2 : (t / 2) % (2 ^ 52 - 1) < 2 ^ 52 - 1 := Nat.mod_lt _ (by omega)
  generalize t % 2 = s at *
  generalize (t / 2) % (2 ^ 52 - 1) = k at *
  have e : s * 2 ^ 63 + 0x7ff0000000000000 + 1 + k = D.word (s == 1) (9218868437227405313 + k) := by
    unfold Ieee.Format.word
    rw [sign_eq]
    have : s = 0 ∨ s = 1 := by omega
    rcases this with rfl | rfl
    · simp <;> omega
    · simp <;> omega
  unfold isNaN
  rw [e, read_word _ _ (by omega), if_neg (by omega), if_neg (by omega), if_neg (by omega)]
  rfl
theorem r_nan (w : World) : ∃ r, (binOp .quo 33 (.float .f64 0) (.float .f64 0)).run Tryz.prog w = .ok (.float .f64 r) w.drew ∧ isNaN r = true := by
  have hd : FloatKind.f64.format.div 0 0 = none := by decide
  refine ⟨_, ?_, nan_cut (w.tape w.drawn (.nanBits .f64 0 0))⟩
  simp [binOp, Op.floatArith, hd, Question.forced, Question.cut]
theorem none_any (w : World) :
    Calls Tryz.prog 20 #[] w fun e w' => (∃ r, e = .returned (.float .f64 r) ∧ isNaN r = true) ∧ Below w.heap.size w w' := by
  obtain ⟨r, hr, hn⟩ := r_nan w
  have HN := Lib.hid hn
  clear hn
  go_enter Tryz.func20, Tryz.ntmps20
  go_wp2_with fail
  go_ret
  exact ⟨⟨r, rfl, HN.out⟩, (Below.refl _ _).drew⟩

noncomputable def unixT (t : Nat) : Int := if isNaN t then 0 else max 0 (min 4294967295 (par t / 512))
def fromU (v : Int) : Nat := if v < 1 ∨ 4294967295 < v then nanW else fl (512 * v)
end Go.Proofs.YtdbcendnibgcaaaGreatDoor.ClkC
end

section
/-
  zlib.over: a product of any floats.
-/
namespace Go.Proofs.YtdbcendnibgcaaaGreatDoor.ZlC
open Go.RowKit Go.My Flt

theorem mul_any (x y : Nat) (w : World) : ∃ r W, (binOp .mul 33 (.float .f64 x) (.float .f64 y)).run Tryz.prog w = .ok (.float .f64 r) W ∧ Below w.heap.size w W ∧ (FloatKind.f64.format.mul x y = some r ∨ (FloatKind.f64.format.mul x y = none ∧ isNaN r = true)) := by
  cases h : FloatKind.f64.format.mul x y with
  | some r => exact ⟨r, w, run_float_arith w .mul _ .f64 x y r h, Below.refl _ _, .inl rfl⟩
  | none =>
    refine ⟨_, w.drew, ?_, (Below.refl _ _).drew, .inr ⟨rfl, ClkC.nan_cut (w.tape w.drawn (.nanBits .f64 x y))⟩⟩
    simp [binOp, Op.floatArith, h, Question.forced, Question.cut]
/-- Are n bytes more than ratio times the used ones? -/
noncomputable def ovr (n used ratio : Nat) : Bool := match FloatKind.f64.format.mul ratio (floatOfInt .f64 (used : Int)) with
  | some r => FloatKind.f64.format.order (floatOfInt .f64 (n : Int)) r == some .gt
  | none => false
theorem ovr_of {n used ratio r : Nat} (h : FloatKind.f64.format.mul ratio (floatOfInt .f64 (used : Int)) = some r ∨ (FloatKind.f64.format.mul ratio (floatOfInt .f64 (used : Int)) = none ∧ isNaN r = true)) :
    (FloatKind.f64.format.order (floatOfInt .f64 (n : Int)) r == some .gt) = ovr n used ratio := by
  unfold ovr
  rcases h with h | ⟨h, hn⟩
  · rw [h]
  · rw [h, ClkC.f_gt, hn]; simp
theorem over_any (n used : Nat) (ratio : Nat) (w : World) :
    Calls Tryz.prog 25 #[.int .i64 (n : Int), .int .i64 (used : Int), .float .f64 ratio] w fun e w' => e = .returned (.bool (ovr n used ratio)) ∧ Below w.heap.size w w' := by
  obtain ⟨r, W, hm, hb, ho⟩ := mul_any ratio (floatOfInt .f64 (used : Int)) w
  have e := ovr_of (n := n) ho
  have HB := Lib.hid hb
  clear hb ho
  generalize ovr n used ratio = K at *
  go_enter Tryz.func25, Tryz.ntmps25
  go_wp2_with fail
  go_ret
  exact ⟨rfl, HB.out⟩
theorem ovr_nan (n used : Nat) {r : Nat} (h : isNaN r = true) : ovr n used r = false := by
  have hm : FloatKind.f64.format.mul r (floatOfInt .f64 (used : Int)) = none := by
    have h' : (FloatKind.f64.format.read r).isNaN = true := h
    unfold Ieee.Format.mul
    cases hr : FloatKind.f64.format.read r with
    | nan => rfl
    | infinity => rw [hr] at h'; cases h'
    | number => rw [hr] at h'; cases h'
  unfold ovr
  rw [hm]
def f1 : Nat := 4607182418800017408
def f5000 : Nat := 4662219572839972864
theorem ovr_one : ∀ n : Fin 301, ovr n.val (5 + n.val) f1 = false := by unfold ovr; decide +kernel
theorem ovr_zero : ∀ n : Fin 301, 0 < n.val → ovr n.val (5 + n.val) 0 = true := by unfold ovr; decide +kernel
end Go.Proofs.YtdbcendnibgcaaaGreatDoor.ZlC
end

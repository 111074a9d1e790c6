/-
  The proleptic Gregorian calendar as plain arithmetic: no program, no dump.
-/
namespace Go.My.Clk

abbrev Leap (y : Int) : Prop := y % 4 = 0 ∧ (y % 100 ≠ 0 ∨ y % 400 = 0)
def lp (y : Int) : Int := if Leap y then 1 else 0
theorem lp_01 (y : Int) : lp y = 0 ∨ lp y = 1 := by unfold lp; split <;> simp
/-- Days of a month. -/
def mlen (y m : Int) : Int := if m = 2 then 28 + lp y else if m = 4 ∨ m = 6 ∨ m = 9 ∨ m = 11 then 30 else 31
/-- Days ahead of a month in its year. -/
def cumT (m : Int) : Int := if m ≤ 1 then 0 else if m = 2 then 31 else if m = 3 then 59 else if m = 4 then 90 else if m = 5 then 120 else if m = 6 then 151 else if m = 7 then 181 else if m = 8 then 212 else if m = 9 then 243 else if m = 10 then 273 else if m = 11 then 304 else if m = 12 then 334 else 365
def cum (y m : Int) : Int := cumT m + (if m ≤ 2 then 0 else lp y)
def ahead (y : Int) : Int := y * 365 + (y - 1) / 4 - (y - 1) / 100 + (y - 1) / 400 + 1
/-- Days from 1970 to a year's beginning. -/
def d2 (y : Int) : Int := ahead y - 719528
def days (y m d : Int) : Int := d2 y + cum y m + (d - 1)
abbrev Valid (y m d : Int) : Prop := 1 ≤ m ∧ m ≤ 12 ∧ 1 ≤ d ∧ d ≤ mlen y m

theorem ahead_1970 : ahead 1970 = 719528 := by decide
theorem lp_eq (y : Int) : lp y = y / 4 - (y - 1) / 4 - (y / 100 - (y - 1) / 100) + (y / 400 - (y - 1) / 400) := by unfold lp Leap; split <;> omega
theorem d2_next (y : Int) : d2 (y + 1) = d2 y + 365 + lp y := by rw [lp_eq]; unfold d2 ahead; omega
theorem d2_mono {y z : Int} (h : y ≤ z) : d2 y ≤ d2 z := by unfold d2 ahead; omega
theorem cum_next (y m : Int) (h1 : 1 ≤ m) (h2 : m ≤ 12) : cum y (m + 1) = cum y m + mlen y m := by
  have : m = 1 ∨ m = 2 ∨ m = 3 ∨ m = 4 ∨ m = 5 ∨ m = 6 ∨ m = 7 ∨ m = 8 ∨ m = 9 ∨ m = 10 ∨ m = 11 ∨ m = 12 := by omega
  rcases this with rfl | rfl | rfl | rfl | rfl | rfl | rfl | rfl | rfl | rfl | rfl | rfl <;> unfold cum cumT mlen <;> simp <;> omega
theorem cum_one (y : Int) : cum y 1 = 0 := by unfold cum cumT; simp
theorem cum_13 (y : Int) : cum y 13 = 365 + lp y := by unfold cum cumT; simp
theorem mlen_pos (y m : Int) : 28 ≤ mlen y m ∧ mlen y m ≤ 31 := by unfold mlen; have := lp_01 y; split <;> (try split) <;> omega
theorem cum_mono (y : Int) {m n : Int} (h1 : 1 ≤ m) (h : m ≤ n) (h2 : n ≤ 13) : cum y m ≤ cum y n := by
  obtain ⟨k, hk⟩ : ∃ k : Nat, n = m + k := ⟨(n - m).toNat, by omega⟩
  subst hk
  induction k with
  | zero => simp
  | succ k ih =>
    have h3 := ih (by omega) (by omega)
    have h4 := cum_next y (m + k) (by omega) (by omega)
    have h5 := (mlen_pos y (m + k)).1
    rw [show m + ((k + 1 : Nat) : Int) = m + k + 1 by omega]
    omega
theorem year_of {y m d : Int} (h : Valid y m d) : d2 y ≤ days y m d ∧ days y m d < d2 (y + 1) := by
  obtain ⟨h1, h2, h3, h4⟩ := h
  have a1 := cum_mono y (m := 1) (n := m) (by omega) h1 (by omega)
  have a2 := cum_mono y (m := m + 1) (n := 13) (by omega) (by omega) (by omega)
  rw [cum_one] at a1
  rw [cum_next y m h1 h2, cum_13] at a2
  have a3 := d2_next y
  unfold days
  omega

/-- A later date has more days. -/
theorem days_lt {y m d y' m' d' : Int} (h : Valid y m d) (h' : Valid y' m' d') (hlt : y < y' ∨ (y = y' ∧ m < m') ∨ (y = y' ∧ m = m' ∧ d < d')) : days y m d < days y' m' d' := by
  rcases hlt with hy | ⟨rfl, hm⟩ | ⟨rfl, rfl, hd⟩
  · have a1 := year_of h
    have a2 := year_of h'
    have a3 := d2_mono (show y + 1 ≤ y' by omega)
    omega
  · obtain ⟨h1, h2, h3, h4⟩ := h
    have a2 := cum_mono y (m := m + 1) (n := m') (by omega) (by omega) (by omega)
    rw [cum_next y m h1 h2] at a2
    unfold days
    omega
  · unfold days; omega
theorem days_inj {y m d y' m' d' : Int} (h : Valid y m d) (h' : Valid y' m' d') (he : days y m d = days y' m' d') : y = y' ∧ m = m' ∧ d = d' := by
  have a := fun x => days_lt h h' x
  have b := fun x => days_lt h' h x
  refine ⟨?_, ?_, ?_⟩
  · by_cases h1 : y < y'
    · have := a (.inl h1); omega
    · by_cases h2 : y' < y
      · have := b (.inl h2); omega
      · omega
  all_goals
    have hy : y = y' := by
      by_cases h1 : y < y'
      · have := a (.inl h1); omega
      · by_cases h2 : y' < y
        · have := b (.inl h2); omega
        · omega
    have hm : m = m' := by
      by_cases h1 : m < m'
      · have := a (.inr (.inl ⟨hy, h1⟩)); omega
      · by_cases h2 : m' < m
        · have := b (.inr (.inl ⟨hy.symm, h2⟩)); omega
        · omega
    first
      | exact hm
      | (by_cases h1 : d < d'
         · have := a (.inr (.inr ⟨hy, hm, h1⟩)); omega
         · by_cases h2 : d' < d
           · have := b (.inr (.inr ⟨hy.symm, hm.symm, h2⟩)); omega
           · omega)

/-- The program's sum of days. -/
def bm (m : Int) : Int := (m * 153 + 2) / 5
theorem days_hi (y m d : Int) (h1 : 3 ≤ m) (h2 : m ≤ 12) : (y + 100400) * 365 + (y + 100400) / 4 - (y + 100400) / 100 + (y + 100400) / 400 + bm (m - 3) + d - 1 - 37389815 = days y m d := by
  have e := lp_eq y
  have : m = 3 ∨ m = 4 ∨ m = 5 ∨ m = 6 ∨ m = 7 ∨ m = 8 ∨ m = 9 ∨ m = 10 ∨ m = 11 ∨ m = 12 := by omega
  rcases this with rfl | rfl | rfl | rfl | rfl | rfl | rfl | rfl | rfl | rfl <;> unfold days d2 ahead cum cumT bm <;> simp <;> omega
theorem days_lo (y m d : Int) (h1 : 1 ≤ m) (h2 : m < 3) : (y + 100400 - 1) * 365 + (y + 100400 - 1) / 4 - (y + 100400 - 1) / 100 + (y + 100400 - 1) / 400 + bm (m + 12 - 3) + d - 1 - 37389815 = days y m d := by
  have : m = 1 ∨ m = 2 := by omega
  rcases this with rfl | rfl <;> unfold days d2 ahead cum cumT bm <;> simp <;> omega

/-- The program's date of a day (counted from its own beginning). -/
def yoe (doe : Int) : Int := (doe - doe / 1460 + doe / 36524 - doe / 146096) / 365
def doy (doe : Int) : Int := doe - (yoe doe * 365 + yoe doe / 4 - yoe doe / 100)
theorem yoe_core (doe k j d c g : Int) (h0 : 0 ≤ doe) (h1 : doe < 146097) (hj : j = 0 ∨ j = 1 ∨ j = 2 ∨ j = 3) (hd : d = 0 ∨ d = 1 ∨ d = 2 ∨ d = 3)
    (hc : c = 0 ∨ c = 1 ∨ c = 2 ∨ c = 3 ∨ c = 4) (hk : 0 ≤ k - 25 * d ∧ k - 25 * d ≤ 24) (hcc : 0 ≤ doe - 36524 * c ∧ doe - 36524 * c ≤ 36523) (hg : (g = 0 ∧ doe < 146096) ∨ (g = 1 ∧ doe = 146096))
    (hy : 0 ≤ doe - doe / 1460 + c - g - 365 * (4 * k + j) ∧ doe - doe / 1460 + c - g - 365 * (4 * k + j) ≤ 364) :
    0 ≤ doe - ((4 * k + j) * 365 + k - d) ∧ doe - ((4 * k + j) * 365 + k - d) ≤ (if j = 3 ∧ (k - 25 * d ≠ 24 ∨ d = 3) then 365 else 364) := by
  rcases hd with rfl | rfl | rfl | rfl <;> rcases hc with rfl | rfl | rfl | rfl | rfl <;> rcases hj with rfl | rfl | rfl | rfl <;> omega
theorem yoe_ok (doe : Int) (h0 : 0 ≤ doe) (h1 : doe < 146097) : 0 ≤ yoe doe ∧ yoe doe ≤ 399 ∧ 0 ≤ doy doe ∧ doy doe ≤ 364 + lp (yoe doe + 1) := by
  have hy : 0 ≤ yoe doe ∧ yoe doe ≤ 399 := by unfold yoe; omega
  have a1 : 0 ≤ doe - doe / 1460 + doe / 36524 - doe / 146096 - 365 * yoe doe ∧ doe - doe / 1460 + doe / 36524 - doe / 146096 - 365 * yoe doe ≤ 364 := by unfold yoe; omega
  have e1 : yoe doe / 100 = yoe doe / 4 / 25 := by omega
  have e2 : yoe doe = 4 * (yoe doe / 4) + yoe doe % 4 := by omega
  have h := yoe_core doe (yoe doe / 4) (yoe doe % 4) (yoe doe / 100) (doe / 36524) (doe / 146096) h0 h1 (by omega) (by omega) (by omega) (by omega) (by omega) (by omega) (by rw [← e2]; exact a1)
  rw [← e2] at h
  refine ⟨hy.1, hy.2, h.1, ?_⟩
  have h2 := h.2
  unfold doy
  unfold lp Leap
  generalize yoe doe = y at *
  split at h2 <;> split <;> omega

theorem mp_ok (l v : Int) (hl : l = 0 ∨ l = 1) (h0 : 0 ≤ v) (h1 : v ≤ 364 + l) : 0 ≤ (v * 5 + 2) / 153 ∧ (v * 5 + 2) / 153 ≤ 11 ∧ 0 ≤ v - bm ((v * 5 + 2) / 153) := by
  unfold bm; omega

/-- Of the day n, counted from the program's beginning: its year, month and day. -/
def mp (doe : Int) : Int := (doy doe * 5 + 2) / 153
def yy (n : Int) : Int := yoe (n % 146097) + n / 146097 * 400 - 100400 + (if 12 < mp (n % 146097) + 3 then 1 else 0)
def mm (n : Int) : Int := if 12 < mp (n % 146097) + 3 then mp (n % 146097) + 3 - 12 else mp (n % 146097) + 3
def dd (n : Int) : Int := doy (n % 146097) - bm (mp (n % 146097)) + 1
theorem date_ok (n : Int) : Valid (yy n) (mm n) (dd n) ∧ days (yy n) (mm n) (dd n) = n - 37389815 := by
  have h := yoe_ok (n % 146097) (by omega) (by omega)
  have hd : doy (n % 146097) = n % 146097 - (yoe (n % 146097) * 365 + yoe (n % 146097) / 4 - yoe (n % 146097) / 100) := rfl
  obtain ⟨era, hera⟩ : ∃ e, e = n / 146097 := ⟨_, rfl⟩
  have hn : n = 146097 * era + n % 146097 := by omega
  unfold yy mm dd
  rw [← hera]
  generalize n % 146097 = doe at *
  have hl : lp (yoe doe + 1) = lp (yoe doe + era * 400 - 100400 + 1) := by rw [lp_eq, lp_eq]; omega
  rw [hl] at h
  have hl2 := lp_eq (yoe doe + era * 400 - 100400 + 1)
  have hl3 := lp_01 (yoe doe + era * 400 - 100400 + 1)
  unfold mp
  have hm := mp_ok (lp (yoe doe + era * 400 - 100400 + 1)) (doy doe) hl3 h.2.2.1 h.2.2.2
  have hb : bm ((doy doe * 5 + 2) / 153) = ((doy doe * 5 + 2) / 153 * 153 + 2) / 5 := rfl
  have hmp : (doy doe * 5 + 2) / 153 * 153 ≤ doy doe * 5 + 2 ∧ doy doe * 5 + 2 < (doy doe * 5 + 2) / 153 * 153 + 153 := by omega
  generalize (doy doe * 5 + 2) / 153 = q at *
  generalize doy doe = v at *
  generalize yoe doe = y at *
  generalize hL : lp (y + era * 400 - 100400 + 1) = l at *
  have hq : q = 0 ∨ q = 1 ∨ q = 2 ∨ q = 3 ∨ q = 4 ∨ q = 5 ∨ q = 6 ∨ q = 7 ∨ q = 8 ∨ q = 9 ∨ q = 10 ∨ q = 11 := by omega
  have key : v - bm q + 1 ≤ mlen (y + era * 400 - 100400 + (if 12 < q + 3 then 1 else 0)) (if 12 < q + 3 then q + 3 - 12 else q + 3) := by
    rcases hq with rfl | rfl | rfl | rfl | rfl | rfl | rfl | rfl | rfl | rfl | rfl | rfl <;> unfold mlen bm at * <;> simp <;> omega
  refine ⟨⟨by split <;> omega, by split <;> omega, by omega, key⟩, ?_⟩
  clear key hl hl2 hl3 hL
  have z1 : (y + era * 400) / 4 = y / 4 + era * 100 := by omega
  have z2 : (y + era * 400) / 100 = y / 100 + era * 4 := by omega
  have z3 : (y + era * 400) / 400 = era := by omega
  by_cases hq2 : 12 < q + 3
  · rw [if_pos hq2, if_pos hq2, ← days_lo _ _ _ (by omega) (by omega)]
    rw [show q + 3 - 12 + 12 - 3 = q by omega, show y + era * 400 - 100400 + 1 + 100400 - 1 = y + era * 400 by omega, z1, z2, z3]
    omega
  · rw [if_neg hq2, if_neg hq2, ← days_hi _ _ _ (by omega) (by omega)]
    rw [show q + 3 - 3 = q by omega, show y + era * 400 - 100400 + 0 + 100400 = y + era * 400 by omega, z1, z2, z3]
    omega
end Go.My.Clk

import Derived.Laws.FloatArith

section
namespace Go.My.Flt
open Ieee

abbrev D : Format := double

theorem binade_eq : D.binade = 4503599627370496 := by decide
theorem sign_eq : D.signWeight = 9223372036854775808 := by decide
theorem inf_eq : D.infRung = 9218868437227405312 := by decide
theorem least_eq : D.leastPlace = -1074 := by decide
/-- What is read, whatever the word. -/
theorem read_num (x : Nat) {s : Bool} {m : Nat} {e : Int} (h : D.read x = .number s m e) : -1074 ≤ e ∧ e ≤ 971 ∧ m < 9007199254740992 := by
  unfold Format.read at h
  simp only [binade_eq, sign_eq, inf_eq, least_eq] at h
  split at h
  · injection h with h1 h2 h3; omega
  · split at h
    · injection h with h1 h2 h3; omega
    · split at h <;> cases h

/- Exponents that nothing may work out. -/
theorem ex_of (n : Nat) : ∃ k : Nat, k = n := ⟨n, rfl⟩
noncomputable def e1065 : Nat := (ex_of 1065).choose
noncomputable def e2200 : Nat := (ex_of 2200).choose
theorem e2200_eq : e2200 = 2200 := (ex_of 2200).choose_spec

/-- The least common unit, 2^-1074; the value of a datum in it (infinities: beyond all numbers). -/
noncomputable def big : Nat := 2 ^ e2200
noncomputable def val : Datum → Int
  | .number s m e => signed s m (e + 1074).toNat
  | .infinity s => if s then -(big : Int) else (big : Int)
  | .nan .. => 0

noncomputable def K (x : Nat) : Int := val (D.read x)
def isNaN (x : Nat) : Bool := (D.read x).isNaN

theorem signed_eq (s : Bool) (m k : Nat) : signed s m k = (if s then -((m : Int) * 2 ^ k) else (m : Int) * 2 ^ k) := by
  unfold signed
  rw [Nat.shiftLeft_eq]
  split <;> simp [Int.natCast_mul, Int.natCast_pow]

theorem signed_add (s : Bool) (m a b : Nat) : signed s m (a + b) = signed s m a * 2 ^ b := by
  rw [signed_eq, signed_eq, Int.pow_add]
  split
  · rw [Int.neg_mul, Int.mul_assoc]
  · rw [Int.mul_assoc]

theorem pow2_pos (k : Nat) : (0 : Int) < 2 ^ k := Int.pow_pos (by decide)

theorem compare_scale (a b c : Int) (hc : 0 < c) : compare (a * c) (b * c) = compare a b := by
  have h1 : a * c < b * c ↔ a < b := Int.mul_lt_mul_right hc
  have h2 : b * c < a * c ↔ b < a := Int.mul_lt_mul_right hc
  have h3 : a * c = b * c ↔ a = b := ⟨fun h => Int.eq_of_mul_eq_mul_right (by omega) h, fun h => by rw [h]⟩
  simp only [compare, compareOfLessAndEq, h1, h3]

theorem signed_lt (s : Bool) (m k : Nat) (hm : m < 9007199254740992) (hk : k ≤ 2045) : -(big : Int) < signed s m k ∧ signed s m k < (big : Int) := by
  rw [signed_eq]
  have h1 : m * 2 ^ k < 2 ^ 53 * 2 ^ k := Nat.mul_lt_mul_of_pos_right hm (Nat.two_pow_pos k)
  have h2 : 2 ^ 53 * 2 ^ k ≤ big := by
    unfold big
    rw [← Nat.pow_add]
    exact Nat.pow_le_pow_right (by omega) (by rw [e2200_eq]; omega)
  have h3 : (m : Int) * 2 ^ k < (big : Int) := by
    have : ((m * 2 ^ k : Nat) : Int) < (big : Int) := Int.ofNat_lt.2 (Nat.lt_of_lt_of_le h1 h2)
    rw [Int.natCast_mul, Int.natCast_pow] at this
    exact this
  have h4 : (0 : Int) ≤ (m : Int) * 2 ^ k := Int.mul_nonneg (by omega) (Int.le_of_lt (pow2_pos k))
  split <;> omega

theorem big_pos : (0 : Int) < (big : Int) := Int.natCast_pos.2 (Nat.two_pow_pos _)

theorem order_eq (x y : Nat) (hx : isNaN x = false) (hy : isNaN y = false) : D.order x y = some (compare (K x) (K y)) := by
  unfold Format.order K
  unfold isNaN at hx hy
  have hp := big_pos
  cases h1 : D.read x with
  | nan s t => rw [h1] at hx; cases hx
  | infinity s =>
    cases h2 : D.read y with
    | nan s t => rw [h2] at hy; cases hy
    | infinity t =>
      unfold Datum.order val
      cases s <;> cases t <;> simp only [if_true, if_false, Bool.false_eq_true]
      · rw [(Int.compare_eq_eq).2 rfl]; rfl
      · rw [(Int.compare_eq_gt).2 (by omega)]; rfl
      · rw [(Int.compare_eq_lt).2 (by omega)]; rfl
      · rw [(Int.compare_eq_eq).2 rfl]; rfl
    | number t n j =>
      have hb := read_num y h2
      have hl := signed_lt t n (j + 1074).toNat hb.2.2 (by omega)
      unfold Datum.order val
      congr 1
      cases s
      · simp only [Bool.false_eq_true, if_false]
        rw [Int.compare_eq_gt.2 hl.2]
      · simp only [if_true]
        rw [Int.compare_eq_lt.2 hl.1]
  | number s m i =>
    have ha := read_num x h1
    cases h2 : D.read y with
    | nan s t => rw [h2] at hy; cases hy
    | infinity t =>
      have hl := signed_lt s m (i + 1074).toNat ha.2.2 (by omega)
      unfold Datum.order val
      congr 1
      cases t
      · simp only [Bool.false_eq_true, if_false]
        rw [Int.compare_eq_lt.2 hl.2]
      · simp only [if_true]
        rw [Int.compare_eq_gt.2 hl.1]
    | number t n j =>
      have hb := read_num y h2
      unfold Datum.order val
      simp only
      congr 1
      have e1 : (i + 1074).toNat = (i - min i j).toNat + (min i j + 1074).toNat := by omega
      have e2 : (j + 1074).toNat = (j - min i j).toNat + (min i j + 1074).toNat := by omega
      rw [e1, e2, signed_add, signed_add, compare_scale _ _ _ (pow2_pos _)]

theorem order_nan_l (x y : Nat) (hx : isNaN x = true) : D.order x y = none := by
  unfold Format.order
  unfold isNaN at hx
  cases h1 : D.read x with
  | nan s t => rfl
  | infinity s => rw [h1] at hx; cases hx
  | number s m i => rw [h1] at hx; cases hx
theorem order_nan_r (x y : Nat) (hx : isNaN y = true) : D.order x y = none := by
  unfold Format.order
  unfold isNaN at hx
  cases h1 : D.read y with
  | nan s t => cases D.read x <;> rfl
  | infinity s => rw [h1] at hx; cases hx
  | number s m i => rw [h1] at hx; cases hx

/-! ### writing -/
theorem read_word (s : Bool) (r : Nat) (h : r < 9223372036854775808) : D.read (D.word s r) = (if r < 4503599627370496 then .number s r (-1074) else if r < 9218868437227405312 then .number s (4503599627370496 + r % 4503599627370496) (-1074 + (r / 4503599627370496 - 1 : Nat)) else if r = 9218868437227405312 then .infinity s else .nan s (r - 9218868437227405312)) := by
  have e1 : D.word s r / 9223372036854775808 % 2 = s.toNat := by
    unfold Format.word
    simp only [sign_eq]
    cases s <;> simp <;> omega
  have e2 : D.word s r % 9223372036854775808 = r := by
    unfold Format.word
    simp only [sign_eq]
    cases s <;> simp <;> omega
  unfold Format.read
  simp only [binade_eq, sign_eq, inf_eq, least_eq, e1, e2]
  have e3 : (s.toNat == 1) = s := by cases s <;> rfl
  rw [e3]

/-- p parts of 512. -/
def fl (p : Int) : Nat := D.nearest (decide (p < 0)) p.natAbs (-9)
noncomputable def Q : Nat := 2 ^ e1065
/-! ### operations -/
/-- Cut towards zero. -/
noncomputable def U : Nat := 512 * Q
/-! ### in parts of 512 -/
/-! ### comparing -/
theorem cmp_gt (x y : Nat) : (D.order x y == some .gt) = (!isNaN x && !isNaN y && decide (K y < K x)) := by
  cases hx : isNaN x
  · cases hy : isNaN y
    · rw [order_eq x y hx hy]
      by_cases h : K y < K x
      · rw [Int.compare_eq_gt.2 h]; simp [h]
      · have : ¬ compare (K x) (K y) = .gt := fun e => h (Int.compare_eq_gt.1 e)
        simp [h, this]
    · rw [order_nan_r x y hy]; simp
  · rw [order_nan_l x y hx]; simp
end Go.My.Flt
end

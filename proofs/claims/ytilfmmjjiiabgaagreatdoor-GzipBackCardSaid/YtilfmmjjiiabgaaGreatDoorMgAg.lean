import Derived.Laws.FloatArith

section
namespace Go.My.Flt
open Ieee

abbrev D : Format := double

theorem binade_eq : D.binade = 4503599627370496 := by decide
theorem sign_eq : D.signWeight = 9223372036854775808 := by decide
theorem inf_eq : D.infRung = 9218868437227405312 := by decide
theorem least_eq : D.leastPlace = -1074 := by decide
theorem frac_eq : D.fractionBits = 52 := rfl

/-- What is read, whatever the word. -/
theorem read_num (x : Nat) {s : Bool} {m : Nat} {e : Int} (h : D.read x = .number s m e) : -1074 ≤ e ∧ e ≤ 971 ∧ m < 9007199254740992 := by
  unfold Format.read at h
  simp only [binade_eq, sign_eq, inf_eq, least_eq] at h
  split at h
  · injection h with h1 h2 h3; omega
  · split at h
    · injection h with h1 h2 h3; omega
    · split at h <;> cases h

/- Exponents that nothing may work out. -/
theorem ex_of (n : Nat) : ∃ k : Nat, k = n := ⟨n, rfl⟩
noncomputable def e1065 : Nat := (ex_of 1065).choose
theorem e1065_eq : e1065 = 1065 := (ex_of 1065).choose_spec
noncomputable def e1074 : Nat := (ex_of 1074).choose
theorem e1074_eq : e1074 = 1074 := (ex_of 1074).choose_spec
noncomputable def e2200 : Nat := (ex_of 2200).choose
theorem e2200_eq : e2200 = 2200 := (ex_of 2200).choose_spec

/-- The least common unit, 2^-1074; the value of a datum in it (infinities: beyond all numbers). -/
noncomputable def big : Nat := 2 ^ e2200
noncomputable def val : Datum → Int
  | .number s m e => signed s m (e + 1074).toNat
  | .infinity s => if s then -(big : Int) else (big : Int)
  | .nan .. => 0

noncomputable def K (x : Nat) : Int := val (D.read x)
def isNaN (x : Nat) : Bool := (D.read x).isNaN

theorem signed_eq (s : Bool) (m k : Nat) : signed s m k = (if s then -((m : Int) * 2 ^ k) else (m : Int) * 2 ^ k) := by
  unfold signed
  rw [Nat.shiftLeft_eq]
  split <;> simp [Int.natCast_mul, Int.natCast_pow]

theorem signed_add (s : Bool) (m a b : Nat) : signed s m (a + b) = signed s m a * 2 ^ b := by
  rw [signed_eq, signed_eq, Int.pow_add]
  split
  · rw [Int.neg_mul, Int.mul_assoc]
  · rw [Int.mul_assoc]

theorem pow2_pos (k : Nat) : (0 : Int) < 2 ^ k := Int.pow_pos (by decide)

theorem compare_scale (a b c : Int) (hc : 0 < c) : compare (a * c) (b * c) = compare a b := by
  have h1 : a * c < b * c ↔ a < b := Int.mul_lt_mul_right hc
  have h2 : b * c < a * c ↔ b < a := Int.mul_lt_mul_right hc
  have h3 : a * c = b * c ↔ a = b := ⟨fun h => Int.eq_of_mul_eq_mul_right (by omega) h, fun h => by rw [h]⟩
  simp only [compare, compareOfLessAndEq, h1, h3]

theorem signed_lt (s : Bool) (m k : Nat) (hm : m < 9007199254740992) (hk : k ≤ 2045) : -(big : Int) < signed s m k ∧ signed s m k < (big : Int) := by
  rw [signed_eq]
  have h1 : m * 2 ^ k < 2 ^ 53 * 2 ^ k := Nat.mul_lt_mul_of_pos_right hm (Nat.two_pow_pos k)
  have h2 : 2 ^ 53 * 2 ^ k ≤ big := by
    unfold big
    rw [← Nat.pow_add]
    exact Nat.pow_le_pow_right (by omega) (by rw [e2200_eq]; omega)
  have h3 : (m : Int) * 2 ^ k < (big : Int) := by
    have : ((m * 2 ^ k : Nat) : Int) < (big : Int) := Int.ofNat_lt.2 (Nat.lt_of_lt_of_le h1 h2)
    rw [Int.natCast_mul, Int.natCast_pow] at this
    exact this
  have h4 : (0 : Int) ≤ (m : Int) * 2 ^ k := Int.mul_nonneg (by omega) (Int.le_of_lt (pow2_pos k))
  split <;> omega

theorem big_pos : (0 : Int) < (big : Int) := Int.natCast_pos.2 (Nat.two_pow_pos _)

theorem order_eq (x y : Nat) (hx : isNaN x = false) (hy : isNaN y = false) : D.order x y = some (compare (K x) (K y)) := by
  unfold Format.order K
  unfold isNaN at hx hy
  have hp := big_pos
  cases h1 : D.read x with
  | nan s t => rw [h1] at hx; cases hx
  | infinity s =>
    cases h2 : D.read y with
    | nan s t => rw [h2] at hy; cases hy
    | infinity t =>
      unfold Datum.order val
      cases s <;> cases t <;> simp only [if_true, if_false, Bool.false_eq_true]
      · rw [(Int.compare_eq_eq).2 rfl]; rfl
      · rw [(Int.compare_eq_gt).2 (by omega)]; rfl
      · rw [(Int.compare_eq_lt).2 (by omega)]; rfl
      · rw [(Int.compare_eq_eq).2 rfl]; rfl
    | number t n j =>
      have hb := read_num y h2
      have hl := signed_lt t n (j + 1074).toNat hb.2.2 (by omega)
      unfold Datum.order val
      congr 1
      cases s
      · simp only [Bool.false_eq_true, if_false]
        rw [Int.compare_eq_gt.2 hl.2]
      · simp only [if_true]
        rw [Int.compare_eq_lt.2 hl.1]
  | number s m i =>
    have ha := read_num x h1
    cases h2 : D.read y with
    | nan s t => rw [h2] at hy; cases hy
    | infinity t =>
      have hl := signed_lt s m (i + 1074).toNat ha.2.2 (by omega)
      unfold Datum.order val
      congr 1
      cases t
      · simp only [Bool.false_eq_true, if_false]
        rw [Int.compare_eq_lt.2 hl.2]
      · simp only [if_true]
        rw [Int.compare_eq_gt.2 hl.1]
    | number t n j =>
      have hb := read_num y h2
      unfold Datum.order val
      simp only
      congr 1
      have e1 : (i + 1074).toNat = (i - min i j).toNat + (min i j + 1074).toNat := by omega
      have e2 : (j + 1074).toNat = (j - min i j).toNat + (min i j + 1074).toNat := by omega
      rw [e1, e2, signed_add, signed_add, compare_scale _ _ _ (pow2_pos _)]

theorem order_nan_l (x y : Nat) (hx : isNaN x = true) : D.order x y = none := by
  unfold Format.order
  unfold isNaN at hx
  cases h1 : D.read x with
  | nan s t => rfl
  | infinity s => rw [h1] at hx; cases hx
  | number s m i => rw [h1] at hx; cases hx
theorem order_nan_r (x y : Nat) (hx : isNaN y = true) : D.order x y = none := by
  unfold Format.order
  unfold isNaN at hx
  cases h1 : D.read y with
  | nan s t => cases D.read x <;> rfl
  | infinity s => rw [h1] at hx; cases hx
  | number s m i => rw [h1] at hx; cases hx

/-! ### writing -/
def last (k : Nat) (q : Int) : Int := max (q + k.log2 - 52) (-1074)

theorem log2_mul_pow (k a : Nat) (hk : k ≠ 0) : (k * 2 ^ a).log2 = k.log2 + a := by
  have h0 : k * 2 ^ a ≠ 0 := Nat.mul_ne_zero hk (Nat.ne_of_gt (Nat.two_pow_pos a))
  refine (Nat.log2_eq_iff h0).2 ⟨?_, ?_⟩
  · rw [Nat.pow_add]; exact Nat.mul_le_mul_right _ (Nat.log2_self_le hk)
  · rw [show k.log2 + a + 1 = (k.log2 + 1) + a by omega, Nat.pow_add]; exact Nat.mul_lt_mul_of_pos_right Nat.lt_log2_self (Nat.two_pow_pos a)

theorem log2_le_52 (k : Nat) (hk0 : k ≠ 0) (hk : k < 9007199254740992) : k.log2 ≤ 52 := by
  have := (Nat.log2_lt hk0).2 (show k < 2 ^ 53 from hk)
  omega

theorem cut_none (way : Toward) (s : Bool) (n : Nat) : way.cut s n 0 = n := by
  unfold Toward.cut
  simp only [Nat.zero_min, Nat.shiftLeft_zero, Nat.div_one, Nat.mod_one]
  cases way <;> simp

theorem cut_exact (way : Toward) (s : Bool) (k a d : Nat) (hk : k ≠ 0) (hd : d ≤ a) : way.cut s (k * 2 ^ a) d = k * 2 ^ (a - d) := by
  have hl := log2_mul_pow k a hk
  have hm : min d ((k * 2 ^ a).log2 + 2) = d := by omega
  have hp := Nat.two_pow_pos d
  have he : k * 2 ^ a = k * 2 ^ (a - d) * 2 ^ d := by rw [Nat.mul_assoc, ← Nat.pow_add, Nat.sub_add_cancel hd]
  unfold Toward.cut
  simp only [hm, Nat.shiftLeft_eq, Nat.one_mul]
  rw [he, Nat.mul_div_cancel _ hp, Nat.mul_mod_left]
  cases way <;> simp

theorem nearest_eq (s : Bool) (k a : Nat) (place : Int) (hk0 : k ≠ 0) (hk : k < 9007199254740992) (ha : -1074 ≤ place + a) :
    D.nearest s (k * 2 ^ a) place = D.word s (min ((last k (place + a) + 1074).toNat * 4503599627370496 + k * 2 ^ (place + a - last k (place + a)).toNat) D.infRung) := by
  have h0 : k * 2 ^ a ≠ 0 := Nat.mul_ne_zero hk0 (Nat.ne_of_gt (Nat.two_pow_pos a))
  have hl := log2_mul_pow k a hk0
  have h52 := log2_le_52 k hk0 hk
  have hlast : max (place + ((k * 2 ^ a).log2 : Nat) - (D.fractionBits : Nat)) (-1074) = last k (place + a) := by
    rw [hl, frac_eq]; unfold last
    omega
  have hle : last k (place + a) ≤ place + a := by unfold last; omega
  unfold Format.nearest
  rw [if_neg h0]
  simp only [least_eq]
  rw [hlast]
  generalize last k (place + a) = L at *
  have hcut : Toward.even.cut s ((k * 2 ^ a) <<< (place - L).toNat) (L - place).toNat = k * 2 ^ (place + a - L).toNat := by
    by_cases hc : L ≤ place
    · rw [show (L - place).toNat = 0 by omega, cut_none, Nat.shiftLeft_eq, Nat.mul_assoc, ← Nat.pow_add, show a + (place - L).toNat = (place + a - L).toNat by omega]
    · rw [show (place - L).toNat = 0 by omega, Nat.shiftLeft_zero, cut_exact _ _ _ _ _ hk0 (by omega), show a - (L - place).toNat = (place + a - L).toNat by omega]
  rw [hcut, binade_eq, show L - -1074 = L + 1074 by omega]

theorem nearest_scale (s : Bool) (k a : Nat) (place : Int) (hk0 : k ≠ 0) (hk : k < 9007199254740992) (ha : -1074 ≤ place + a) :
    D.nearest s (k * 2 ^ a) place = D.nearest s k (place + a) := by
  have h2 := nearest_eq s k 0 (place + a) hk0 hk (by omega)
  rw [Nat.pow_zero, Nat.mul_one, show place + (a : Int) + ((0 : Nat) : Int) = place + a by omega] at h2
  rw [h2, nearest_eq s k a place hk0 hk ha]

theorem read_word (s : Bool) (r : Nat) (h : r < 9223372036854775808) : D.read (D.word s r) = (if r < 4503599627370496 then .number s r (-1074) else if r < 9218868437227405312 then .number s (4503599627370496 + r % 4503599627370496) (-1074 + (r / 4503599627370496 - 1 : Nat)) else if r = 9218868437227405312 then .infinity s else .nan s (r - 9218868437227405312)) := by
  have e1 : D.word s r / 9223372036854775808 % 2 = s.toNat := by
    unfold Format.word
    simp only [sign_eq]
    cases s <;> simp <;> omega
  have e2 : D.word s r % 9223372036854775808 = r := by
    unfold Format.word
    simp only [sign_eq]
    cases s <;> simp <;> omega
  unfold Format.read
  simp only [binade_eq, sign_eq, inf_eq, least_eq, e1, e2]
  have e3 : (s.toNat == 1) = s := by cases s <;> rfl
  rw [e3]

theorem nearest_read (s : Bool) (k : Nat) (q : Int) (hk0 : k ≠ 0) (hk : k < 9007199254740992) (hq : -1074 ≤ q) (ho : q + k.log2 ≤ 1023) :
    D.read (D.nearest s k q) = .number s (k * 2 ^ (q - last k q).toNat) (last k q) := by
  have h2 := nearest_eq s k 0 q hk0 hk (by omega)
  rw [Nat.pow_zero, Nat.mul_one, show q + ((0 : Nat) : Int) = q by omega] at h2
  rw [h2]
  have h52 := log2_le_52 k hk0 hk
  have hle : last k q ≤ q := by unfold last; omega
  have hge : -1074 ≤ last k q := by unfold last; omega
  have hlo : last k q ≤ 971 := by unfold last; omega
  have hl : (k * 2 ^ (q - last k q).toNat).log2 = k.log2 + (q - last k q).toNat := log2_mul_pow _ _ hk0
  have hn0 : k * 2 ^ (q - last k q).toNat ≠ 0 := Nat.mul_ne_zero hk0 (Nat.ne_of_gt (Nat.two_pow_pos _))
  have hk1 : k * 2 ^ (q - last k q).toNat < 2 ^ 53 := (Nat.log2_lt hn0).1 (by rw [hl]; unfold last; omega)
  have hk2 : -1074 < last k q → 2 ^ 52 ≤ k * 2 ^ (q - last k q).toNat := fun h => by
    have h3 : (k * 2 ^ (q - last k q).toNat).log2 = 52 := by rw [hl]; unfold last at *; omega
    have h4 := Nat.log2_self_le hn0
    rw [h3] at h4; exact h4
  generalize k * 2 ^ (q - last k q).toNat = M at *
  generalize last k q = L at *
  have h53 : (2 : Nat) ^ 53 = 9007199254740992 := rfl
  have h52' : (2 : Nat) ^ 52 = 4503599627370496 := rfl
  rw [h53] at hk1
  rw [h52'] at hk2
  obtain ⟨c, hc⟩ : ∃ c : Nat, (L + 1074).toNat = c := ⟨_, rfl⟩
  have hc2 : c ≤ 2045 := by omega
  have hL : L = -1074 + c := by omega
  rw [inf_eq, hc, Nat.min_eq_left (by omega), read_word _ _ (by omega)]
  by_cases h : c * 4503599627370496 + M < 4503599627370496
  · rw [if_pos h]
    have : c = 0 := by omega
    subst this
    congr 1 <;> omega
  · rw [if_neg h, if_pos (by omega)]
    have hM : 4503599627370496 ≤ M := by
      by_cases h5 : c = 0
      · omega
      · exact hk2 (by omega)
    congr 1 <;> omega

/-- p parts of 512. -/
def fl (p : Int) : Nat := D.nearest (decide (p < 0)) p.natAbs (-9)
noncomputable def Q : Nat := 2 ^ e1065
theorem Q_pos : (0 : Int) < (Q : Int) := Int.natCast_pos.2 (Nat.two_pow_pos _)

theorem fl_zero : fl 0 = 0 := by decide

theorem read_fl (p : Int) (h0 : p ≠ 0) (h : p.natAbs < 9007199254740992) : ∃ (m a : Nat) (e : Int), D.read (fl p) = .number (decide (p < 0)) m e ∧ m = p.natAbs * 2 ^ a ∧ e + a = -9 ∧ -1074 ≤ e ∧ m ≠ 0 ∧ m < 9007199254740992 := by
  have hn : p.natAbs ≠ 0 := by omega
  have h52 := log2_le_52 _ hn h
  have hr := nearest_read (decide (p < 0)) p.natAbs (-9) hn h (by omega) (by omega)
  refine ⟨_, _, _, hr, rfl, ?_, ?_, ?_, ?_⟩
  · unfold last; omega
  · unfold last; omega
  · exact Nat.mul_ne_zero hn (Nat.ne_of_gt (Nat.two_pow_pos _))
  · exact (read_num _ hr).2.2

theorem isNaN_fl (p : Int) (h : p.natAbs < 9007199254740992) : isNaN (fl p) = false := by
  by_cases h0 : p = 0
  · subst h0; decide
  · obtain ⟨m, a, e, hr, _⟩ := read_fl p h0 h
    unfold isNaN; rw [hr]; rfl

theorem sgn_abs (p : Int) : (if decide (p < 0) = true then -(p.natAbs : Int) else (p.natAbs : Int)) = p := by
  split <;> rename_i h <;> simp at h <;> omega

theorem K_fl (p : Int) (h : p.natAbs < 9007199254740992) : K (fl p) = p * (Q : Int) := by
  by_cases h0 : p = 0
  · subst h0
    rw [fl_zero, Int.zero_mul]
    show val (D.read 0) = 0
    rw [show D.read 0 = .number false 0 (-1074) from by decide]
    show signed false 0 _ = 0
    rw [signed_eq]; simp
  · obtain ⟨m, a, e, hr, hm, he, h1, _, _⟩ := read_fl p h0 h
    unfold K
    rw [hr]
    show signed (decide (p < 0)) m (e + 1074).toNat = _
    rw [signed_eq, hm]
    have hQ : (Q : Int) = 2 ^ a * 2 ^ (e + 1074).toNat := by
      rw [← Int.pow_add, show a + (e + 1074).toNat = e1065 by rw [e1065_eq]; omega]
      unfold Q
      exact Int.natCast_pow 2 e1065
    rw [hQ, Int.natCast_mul, Int.natCast_pow]
    conv => rhs; rw [← sgn_abs p]
    split
    · rw [Int.mul_assoc, Int.neg_mul]; rfl
    · rw [Int.mul_assoc]; rfl

/-! ### operations -/
/-- A number that is no NaN and no infinity. -/
def fin (x : Nat) : Prop := ∃ s m e, D.read x = .number s m e
theorem fin.notNaN {x : Nat} (h : fin x) : isNaN x = false := by
  obtain ⟨s, m, e, h⟩ := h
  unfold isNaN; rw [h]; rfl

theorem K_num {x : Nat} {s : Bool} {m : Nat} {e : Int} (h : D.read x = .number s m e) : K x = (if s then -((m : Int) * 2 ^ (e + 1074).toNat) else (m : Int) * 2 ^ (e + 1074).toNat) := by
  unfold K; rw [h]; exact signed_eq _ _ _
theorem fin_of_K {x : Nat} (h : isNaN x = false) (h1 : -(big : Int) < K x) (h2 : K x < (big : Int)) : fin x := by
  cases hr : D.read x with
  | nan s t => unfold isNaN at h; rw [hr] at h; cases h
  | infinity s =>
    exfalso
    unfold K at h1 h2
    rw [hr] at h1 h2
    cases s
    · have : val (.infinity false) = (big : Int) := rfl
      omega
    · have : val (.infinity true) = -(big : Int) := rfl
      omega
  | number s m e => exact ⟨s, m, e, hr⟩

/-- Cut towards zero. -/
noncomputable def U : Nat := 512 * Q
theorem U_eq : U = 2 ^ e1074 := by unfold U Q; rw [show (512 : Nat) = 2 ^ 9 from rfl, ← Nat.pow_add, show 9 + e1065 = e1074 by rw [e1065_eq, e1074_eq]]
theorem U_pos : (0 : Int) < (U : Int) := by rw [U_eq]; exact Int.natCast_pos.2 (Nat.two_pow_pos _)

theorem cut_zero (s : Bool) (m d : Nat) : Toward.zero.cut s m d = m / 2 ^ d := by
  unfold Toward.cut
  simp only [Nat.shiftLeft_eq, Nat.one_mul, Bool.toNat_false, Nat.add_zero]
  by_cases h : d ≤ m.log2 + 2
  · rw [Nat.min_eq_left h]
  · rw [Nat.min_eq_right (by omega)]
    have h1 : m < 2 ^ (m.log2 + 2) := by
      have := @Nat.lt_log2_self m
      have h2 : 2 ^ (m.log2 + 1) ≤ 2 ^ (m.log2 + 2) := Nat.pow_le_pow_right (by omega) (by omega)
      omega
    have h3 : 2 ^ (m.log2 + 2) ≤ 2 ^ d := Nat.pow_le_pow_right (by omega) (by omega)
    rw [Nat.div_eq_of_lt h1, Nat.div_eq_of_lt (by omega)]

/-- m·2^e without its digits behind the point. -/
theorem whole_part (s : Bool) (m : Nat) (e : Int) (he : -1074 ≤ e) : Toward.zero.cut s (m <<< e.toNat) (-e).toNat = m * 2 ^ (e + 1074).toNat / 2 ^ e1074 := by
  rw [cut_zero, Nat.shiftLeft_eq]
  by_cases h : 0 ≤ e
  · rw [show (-e).toNat = 0 by omega, Nat.pow_zero, Nat.div_one, show (e + 1074).toNat = e.toNat + e1074 by rw [e1074_eq]; omega, Nat.pow_add, ← Nat.mul_assoc, Nat.mul_div_cancel _ (Nat.two_pow_pos _)]
  · rw [show e.toNat = 0 by omega, Nat.pow_zero, Nat.mul_one]
    have h1 : 2 ^ e1074 = 2 ^ (-e).toNat * 2 ^ (e + 1074).toNat := by rw [← Nat.pow_add, show (-e).toNat + (e + 1074).toNat = e1074 by rw [e1074_eq]; omega]
    rw [h1, Nat.mul_div_mul_right _ _ (Nat.two_pow_pos _)]

theorem toInt_K (x : Nat) (hx : fin x) : (D.read x).toInt .zero = some (Int.tdiv (K x) (U : Int)) := by
  obtain ⟨s, m, e, hr⟩ := hx
  have hn := read_num _ hr
  rw [hr]
  unfold Datum.toInt Datum.integral
  simp only
  rw [whole_part _ _ _ hn.1, K_num hr, U_eq]
  congr 1
  rw [signed_eq, Int.pow_zero, Int.mul_one]
  have e2 : (m : Int) * 2 ^ (e + 1074).toNat = ((m * 2 ^ (e + 1074).toNat : Nat) : Int) := by rw [Int.natCast_mul, Int.natCast_pow]; rfl
  rw [e2]
  generalize m * 2 ^ (e + 1074).toNat = z
  generalize 2 ^ e1074 = y
  cases s
  · simp only [Bool.false_eq_true, if_false]
    exact (Int.ofNat_tdiv z y).symm
  · simp only [if_true]
    rw [Int.neg_tdiv, ← Int.ofNat_tdiv]

theorem tdiv_cases (a b : Int) : (0 ≤ a ∧ Int.tdiv a b = a / b) ∨ (a < 0 ∧ Int.tdiv a b = -((-a) / b)) := by
  by_cases h : 0 ≤ a
  · exact .inl ⟨h, Int.tdiv_eq_ediv_of_nonneg h⟩
  · right
    refine ⟨by omega, ?_⟩
    have : a = -(-a) := by omega
    rw [this, Int.neg_tdiv, Int.tdiv_eq_ediv_of_nonneg (by omega)]
    simp

theorem floatOfInt_fl (n : Int) (h : n.natAbs < 9007199254740992) : FloatKind.f64.nearest n = fl (512 * n) := by
  by_cases h0 : n = 0
  · subst h0; decide
  · have h1 := nearest_scale (decide (n < 0)) n.natAbs 9 (-9) (by omega) h (by omega)
    unfold fl
    rw [show (512 * n).natAbs = n.natAbs * 2 ^ 9 by omega, show decide (512 * n < 0) = decide (n < 0) by rw [Bool.eq_iff_iff]; simp; omega, h1]
    rfl

/-! ### in parts of 512 -/
noncomputable def par (x : Nat) : Int := K x / (Q : Int)
theorem lt_iff (x : Nat) (c : Int) : K x < c * (Q : Int) ↔ par x < c := (Int.ediv_lt_iff_lt_mul Q_pos).symm
theorem ge_iff (x : Nat) (c : Int) : c * (Q : Int) ≤ K x ↔ c ≤ par x := (Int.le_ediv_iff_mul_le Q_pos).symm
theorem par_le {x : Nat} {c : Int} (h : K x ≤ c * (Q : Int)) : par x ≤ c := by
  have h1 : par x < c + 1 := (lt_iff x (c + 1)).1 (by rw [Int.add_mul]; have := Q_pos; omega)
  omega
theorem sec_eq (x : Nat) : K x / (U : Int) = par x / 512 := by
  unfold par U
  rw [Int.natCast_mul, Int.mul_comm, ← Int.ediv_ediv_of_nonneg (by have := Q_pos; omega)]
  rfl
theorem whole_eq (k : Int) : (if k < Int.tdiv k (U : Int) * (U : Int) then Int.tdiv k (U : Int) - 1 else Int.tdiv k (U : Int)) = k / (U : Int) := by
  have hU := U_pos
  generalize (U : Int) = u at *
  rcases tdiv_cases k u with ⟨h1, h2⟩ | ⟨h1, h2⟩
  · rw [h2, if_neg]
    have := Int.ediv_mul_le k (show u ≠ 0 by omega)
    omega
  · rw [h2]
    have a1 := Int.ediv_mul_le (-k) (show u ≠ 0 by omega)
    have a2 := Int.lt_ediv_add_one_mul_self (-k) hU
    generalize (-k) / u = n at *
    have e1 : -n * u = -(n * u) := Int.neg_mul _ _
    rw [Int.add_mul] at a2
    by_cases h : k < -n * u
    · rw [if_pos h]
      symm
      refine Int.le_antisymm ?_ ?_
      · have : k / u < -n := Int.ediv_lt_of_lt_mul hU h
        omega
      · refine (Int.le_ediv_iff_mul_le hU).2 ?_
        rw [Int.sub_mul]; omega
    · rw [if_neg h]
      have : k = -n * u := by omega
      rw [this, Int.mul_ediv_cancel _ (by omega)]

/-! ### comparing -/
theorem cmp_lt (x y : Nat) : (D.order x y == some .lt) = (!isNaN x && !isNaN y && decide (K x < K y)) := by
  cases hx : isNaN x
  · cases hy : isNaN y
    · rw [order_eq x y hx hy]
      by_cases h : K x < K y
      · rw [Int.compare_eq_lt.2 h]; simp [h]
      · have : ¬ compare (K x) (K y) = .lt := fun e => h (Int.compare_eq_lt.1 e)
        simp [h, this]
    · rw [order_nan_r x y hy]; simp
  · rw [order_nan_l x y hx]; simp
theorem cmp_gt (x y : Nat) : (D.order x y == some .gt) = (!isNaN x && !isNaN y && decide (K y < K x)) := by
  cases hx : isNaN x
  · cases hy : isNaN y
    · rw [order_eq x y hx hy]
      by_cases h : K y < K x
      · rw [Int.compare_eq_gt.2 h]; simp [h]
      · have : ¬ compare (K x) (K y) = .gt := fun e => h (Int.compare_eq_gt.1 e)
        simp [h, this]
    · rw [order_nan_r x y hy]; simp
  · rw [order_nan_l x y hx]; simp
theorem cmp_eq (x y : Nat) : (D.order x y == some .eq) = (!isNaN x && !isNaN y && decide (K x = K y)) := by
  cases hx : isNaN x
  · cases hy : isNaN y
    · rw [order_eq x y hx hy]
      by_cases h : K x = K y
      · rw [Int.compare_eq_eq.2 h]; simp [h]
      · have : ¬ compare (K x) (K y) = .eq := fun e => h (Int.compare_eq_eq.1 e)
        simp [h, this]
    · rw [order_nan_r x y hy]; simp
  · rw [order_nan_l x y hx]; simp
end Go.My.Flt
end

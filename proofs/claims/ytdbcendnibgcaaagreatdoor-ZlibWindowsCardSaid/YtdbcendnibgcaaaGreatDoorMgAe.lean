import Derived.Laws.FloatArith

section
namespace Go.My.Flt
open Ieee

abbrev D : Format := double

theorem binade_eq : D.binade = 4503599627370496 := by decide
theorem sign_eq : D.signWeight = 9223372036854775808 := by decide
theorem inf_eq : D.infRung = 9218868437227405312 := by decide
theorem least_eq : D.leastPlace = -1074 := by decide
theorem frac_eq : D.fractionBits = 52 := rfl

/-- What is read, whatever the word. -/
theorem read_num (x : Nat) {s : Bool} {m : Nat} {e : Int} (h : D.read x = .number s m e) : -1074 ≤ e ∧ e ≤ 971 ∧ m < 9007199254740992 := by
  unfold Format.read at h
  simp only [binade_eq, sign_eq, inf_eq, least_eq] at h
  split at h
  · injection h with h1 h2 h3; omega
  · split at h
    · injection h with h1 h2 h3; omega
    · split at h <;> cases h

/- Exponents that nothing may work out. -/
theorem ex_of (n : Nat) : ∃ k : Nat, k = n := ⟨n, rfl⟩
noncomputable def e1065 : Nat := (ex_of 1065).choose
theorem e1065_eq : e1065 = 1065 := (ex_of 1065).choose_spec
noncomputable def e1074 : Nat := (ex_of 1074).choose
theorem e1074_eq : e1074 = 1074 := (ex_of 1074).choose_spec
noncomputable def e2200 : Nat := (ex_of 2200).choose
theorem e2200_eq : e2200 = 2200 := (ex_of 2200).choose_spec

/-- The least common unit, 2^-1074; the value of a datum in it (infinities: beyond all numbers). -/
noncomputable def big : Nat := 2 ^ e2200
noncomputable def val : Datum → Int
  | .number s m e => signed s m (e + 1074).toNat
  | .infinity s => if s then -(big : Int) else (big : Int)
  | .nan .. => 0

noncomputable def K (x : Nat) : Int := val (D.read x)
def isNaN (x : Nat) : Bool := (D.read x).isNaN

theorem signed_eq (s : Bool) (m k : Nat) : signed s m k = (if s then -((m : Int) * 2 ^ k) else (m : Int) * 2 ^ k) := by
  unfold signed
  rw [Nat.shiftLeft_eq]
  split <;> simp [Int.natCast_mul, Int.natCast_pow]

theorem signed_add (s : Bool) (m a b : Nat) : signed s m (a + b) = signed s m a * 2 ^ b := by
  rw [signed_eq, signed_eq, Int.pow_add]
  split
  · rw [Int.neg_mul, Int.mul_assoc]
  · rw [Int.mul_assoc]

theorem pow2_pos (k : Nat) : (0 : Int) < 2 ^ k := Int.pow_pos (by decide)

theorem compare_scale (a b c : Int) (hc : 0 < c) : compare (a * c) (b * c) = compare a b := by
  have h1 : a * c < b * c ↔ a < b := Int.mul_lt_mul_right hc
  have h2 : b * c < a * c ↔ b < a := Int.mul_lt_mul_right hc
  have h3 : a * c = b * c ↔ a = b := ⟨fun h => Int.eq_of_mul_eq_mul_right (by omega) h, fun h => by rw [h]⟩
  simp only [compare, compareOfLessAndEq, h1, h3]

theorem signed_lt (s : Bool) (m k : Nat) (hm : m < 9007199254740992) (hk : k ≤ 2045) : -(big : Int) < signed s m k ∧ signed s m k < (big : Int) := by
  rw [signed_eq]
  have h1 : m * 2 ^ k < 2 ^ 53 * 2 ^ k := Nat.mul_lt_mul_of_pos_right hm (Nat.two_pow_pos k)
  have h2 : 2 ^ 53 * 2 ^ k ≤ big := by
    unfold big
    rw [← Nat.pow_add]
    exact Nat.pow_le_pow_right (by omega) (by rw [e2200_eq]; omega)
  have h3 : (m : Int) * 2 ^ k < (big : Int) := by
    have : ((m * 2 ^ k : Nat) : Int) < (big : Int) := Int.ofNat_lt.2 (Nat.lt_of_lt_of_le h1 h2)
    rw [Int.natCast_mul, Int.natCast_pow] at this
    exact this
  have h4 : (0 : Int) ≤ (m : Int) * 2 ^ k := Int.mul_nonneg (by omega) (Int.le_of_lt (pow2_pos k))
  split <;> omega

theorem big_pos : (0 : Int) < (big : Int) := Int.natCast_pos.2 (Nat.two_pow_pos _)

theorem order_eq (x y : Nat) (hx : isNaN x = false) (hy : isNaN y = false) : D.order x y = some (compare (K x) (K y)) := by
  unfold Format.order K
  unfold isNaN at hx hy
  have hp := big_pos
  cases h1 : D.read x with
  | nan s t => rw [h1] at hx; cases hx
  | infinity s =>
    cases h2 : D.read y with
    | nan s t => rw [h2] at hy; cases hy
    | infinity t =>
      unfold Datum.order val
      cases s <;> cases t <;> simp only [if_true, if_false, Bool.false_eq_true]
      · rw [(Int.compare_eq_eq).2 rfl]; rfl
      · rw [(Int.compare_eq_gt).2 (by omega)]; rfl
      · rw [(Int.compare_eq_lt).2 (by omega)]; rfl
      · rw [(Int.compare_eq_eq).2 rfl]; rfl
    | number t n j =>
      have hb := read_num y h2
      have hl := signed_lt t n (j + 1074).toNat hb.2.2 (by omega)
      unfold Datum.order val
      congr 1
      cases s
      · simp only [Bool.false_eq_true, if_false]
        rw [Int.compare_eq_gt.2 hl.2]
      · simp only [if_true]
        rw [Int.compare_eq_lt.2 hl.1]
  | number s m i =>
    have ha := read_num x h1
    cases h2 : D.read y with
    | nan s t => rw [h2] at hy; cases hy
    | infinity t =>
      have hl := signed_lt s m (i + 1074).toNat ha.2.2 (by omega)
      unfold Datum.order val
      congr 1
      cases t
      · simp only [Bool.false_eq_true, if_false]
        rw [Int.compare_eq_lt.2 hl.2]
      · simp only [if_true]
        rw [Int.compare_eq_gt.2 hl.1]
    | number t n j =>
      have hb := read_num y h2
      unfold Datum.order val
      simp only
      congr 1
      have e1 : (i + 1074).toNat = (i - min i j).toNat + (min i j + 1074).toNat := by omega
      have e2 : (j + 1074).toNat = (j - min i j).toNat + (min i j + 1074).toNat := by omega
      rw [e1, e2, signed_add, signed_add, compare_scale _ _ _ (pow2_pos _)]

theorem order_nan_l (x y : Nat) (hx : isNaN x = true) : D.order x y = none := by
  unfold Format.order
  unfold isNaN at hx
  cases h1 : D.read x with
  | nan s t => rfl
  | infinity s => rw [h1] at hx; cases hx
  | number s m i => rw [h1] at hx; cases hx
theorem order_nan_r (x y : Nat) (hx : isNaN y = true) : D.order x y = none := by
  unfold Format.order
  unfold isNaN at hx
  cases h1 : D.read y with
  | nan s t => cases D.read x <;> rfl
  | infinity s => rw [h1] at hx; cases hx
  | number s m i => rw [h1] at hx; cases hx

/-! ### writing -/
def last (k : Nat) (q : Int) : Int := max (q + k.log2 - 52) (-1074)

theorem log2_mul_pow (k a : Nat) (hk : k ≠ 0) : (k * 2 ^ a).log2 = k.log2 + a := by
  have h0 : k * 2 ^ a ≠ 0 := Nat.mul_ne_zero hk (Nat.ne_of_gt (Nat.two_pow_pos a))
  refine (Nat.log2_eq_iff h0).2 ⟨?_, ?_⟩
  · rw [Nat.pow_add]; exact Nat.mul_le_mul_right _ (Nat.log2_self_le hk)
  · rw [show k.log2 + a + 1 = (k.log2 + 1) + a by omega, Nat.pow_add]; exact Nat.mul_lt_mul_of_pos_right Nat.lt_log2_self (Nat.two_pow_pos a)

theorem log2_le_52 (k : Nat) (hk0 : k ≠ 0) (hk : k < 9007199254740992) : k.log2 ≤ 52 := by
  have := (Nat.log2_lt hk0).2 (show k < 2 ^ 53 from hk)
  omega

theorem cut_none (way : Toward) (s : Bool) (n : Nat) : way.cut s n 0 = n := by
  unfold Toward.cut
  simp only [Nat.zero_min, Nat.shiftLeft_zero, Nat.div_one, Nat.mod_one]
  cases way <;> simp

theorem cut_exact (way : Toward) (s : Bool) (k a d : Nat) (hk : k ≠ 0) (hd : d ≤ a) : way.cut s (k * 2 ^ a) d = k * 2 ^ (a - d) := by
  have hl := log2_mul_pow k a hk
  have hm : min d ((k * 2 ^ a).log2 + 2) = d := by omega
  have hp := Nat.two_pow_pos d
  have he : k * 2 ^ a = k * 2 ^ (a - d) * 2 ^ d := by rw [Nat.mul_assoc, ← Nat.pow_add, Nat.sub_add_cancel hd]
  unfold Toward.cut
  simp only [hm, Nat.shiftLeft_eq, Nat.one_mul]
  rw [he, Nat.mul_div_cancel _ hp, Nat.mul_mod_left]
  cases way <;> simp

theorem nearest_eq (s : Bool) (k a : Nat) (place : Int) (hk0 : k ≠ 0) (hk : k < 9007199254740992) (ha : -1074 ≤ place + a) :
    D.nearest s (k * 2 ^ a) place = D.word s (min ((last k (place + a) + 1074).toNat * 4503599627370496 + k * 2 ^ (place + a - last k (place + a)).toNat) D.infRung) := by
  have h0 : k * 2 ^ a ≠ 0 := Nat.mul_ne_zero hk0 (Nat.ne_of_gt (Nat.two_pow_pos a))
  have hl := log2_mul_pow k a hk0
  have h52 := log2_le_52 k hk0 hk
  have hlast : max (place + ((k * 2 ^ a).log2 : Nat) - (D.fractionBits : Nat)) (-1074) = last k (place + a) := by
    rw [hl, frac_eq]; unfold last
    omega
  have hle : last k (place + a) ≤ place + a := by unfold last; omega
  unfold Format.nearest
  rw [if_neg h0]
  simp only [least_eq]
  rw [hlast]
  generalize last k (place + a) = L at *
  have hcut : Toward.even.cut s ((k * 2 ^ a) <<< (place - L).toNat) (L - place).toNat = k * 2 ^ (place + a - L).toNat := by
    by_cases hc : L ≤ place
    · rw [show (L - place).toNat = 0 by omega, cut_none, Nat.shiftLeft_eq, Nat.mul_assoc, ← Nat.pow_add, show a + (place - L).toNat = (place + a - L).toNat by omega]
    · rw [show (place - L).toNat = 0 by omega, Nat.shiftLeft_zero, cut_exact _ _ _ _ _ hk0 (by omega), show a - (L - place).toNat = (place + a - L).toNat by omega]
  rw [hcut, binade_eq, show L - -1074 = L + 1074 by omega]

theorem nearest_scale (s : Bool) (k a : Nat) (place : Int) (hk0 : k ≠ 0) (hk : k < 9007199254740992) (ha : -1074 ≤ place + a) :
    D.nearest s (k * 2 ^ a) place = D.nearest s k (place + a) := by
  have h2 := nearest_eq s k 0 (place + a) hk0 hk (by omega)
  rw [Nat.pow_zero, Nat.mul_one, show place + (a : Int) + ((0 : Nat) : Int) = place + a by omega] at h2
  rw [h2, nearest_eq s k a place hk0 hk ha]

theorem read_word (s : Bool) (r : Nat) (h : r < 9223372036854775808) : D.read (D.word s r) = (if r < 4503599627370496 then .number s r (-1074) else if r < 9218868437227405312 then .number s (4503599627370496 + r % 4503599627370496) (-1074 + (r / 4503599627370496 - 1 : Nat)) else if r = 9218868437227405312 then .infinity s else .nan s (r - 9218868437227405312)) := by
  have e1 : D.word s r / 9223372036854775808 % 2 = s.toNat := by
    unfold Format.word
    simp only [sign_eq]
    cases s <;> simp <;> omega
  have e2 : D.word s r % 9223372036854775808 = r := by
    unfold Format.word
    simp only [sign_eq]
    cases s <;> simp <;> omega
  unfold Format.read
  simp only [binade_eq, sign_eq, inf_eq, least_eq, e1, e2]
  have e3 : (s.toNat == 1) = s := by cases s <;> rfl
  rw [e3]

theorem nearest_zero (s : Bool) (e : Int) : D.nearest s 0 e = D.word s 0 := by
  unfold Format.nearest; rw [if_pos rfl]

theorem nearest_read (s : Bool) (k : Nat) (q : Int) (hk0 : k ≠ 0) (hk : k < 9007199254740992) (hq : -1074 ≤ q) (ho : q + k.log2 ≤ 1023) :
    D.read (D.nearest s k q) = .number s (k * 2 ^ (q - last k q).toNat) (last k q) := by
  have h2 := nearest_eq s k 0 q hk0 hk (by omega)
  rw [Nat.pow_zero, Nat.mul_one, show q + ((0 : Nat) : Int) = q by omega] at h2
  rw [h2]
  have h52 := log2_le_52 k hk0 hk
  have hle : last k q ≤ q := by unfold last; omega
  have hge : -1074 ≤ last k q := by unfold last; omega
  have hlo : last k q ≤ 971 := by unfold last; omega
  have hl : (k * 2 ^ (q - last k q).toNat).log2 = k.log2 + (q - last k q).toNat := log2_mul_pow _ _ hk0
  have hn0 : k * 2 ^ (q - last k q).toNat ≠ 0 := Nat.mul_ne_zero hk0 (Nat.ne_of_gt (Nat.two_pow_pos _))
  have hk1 : k * 2 ^ (q - last k q).toNat < 2 ^ 53 := (Nat.log2_lt hn0).1 (by rw [hl]; unfold last; omega)
  have hk2 : -1074 < last k q → 2 ^ 52 ≤ k * 2 ^ (q - last k q).toNat := fun h => by
    have h3 : (k * 2 ^ (q - last k q).toNat).log2 = 52 := by rw [hl]; unfold last at *; omega
    have h4 := Nat.log2_self_le hn0
    rw [h3] at h4; exact h4
  generalize k * 2 ^ (q - last k q).toNat = M at *
  generalize last k q = L at *
  have h53 : (2 : Nat) ^ 53 = 9007199254740992 := rfl
  have h52' : (2 : Nat) ^ 52 = 4503599627370496 := rfl
  rw [h53] at hk1
  rw [h52'] at hk2
  obtain ⟨c, hc⟩ : ∃ c : Nat, (L + 1074).toNat = c := ⟨_, rfl⟩
  have hc2 : c ≤ 2045 := by omega
  have hL : L = -1074 + c := by omega
  rw [inf_eq, hc, Nat.min_eq_left (by omega), read_word _ _ (by omega)]
  by_cases h : c * 4503599627370496 + M < 4503599627370496
  · rw [if_pos h]
    have : c = 0 := by omega
    subst this
    congr 1 <;> omega
  · rw [if_neg h, if_pos (by omega)]
    have hM : 4503599627370496 ≤ M := by
      by_cases h5 : c = 0
      · omega
      · exact hk2 (by omega)
    congr 1 <;> omega

/-- p parts of 512. -/
def fl (p : Int) : Nat := D.nearest (decide (p < 0)) p.natAbs (-9)
noncomputable def Q : Nat := 2 ^ e1065
theorem Q_pos : (0 : Int) < (Q : Int) := Int.natCast_pos.2 (Nat.two_pow_pos _)

theorem fl_zero : fl 0 = 0 := by decide

theorem read_fl (p : Int) (h0 : p ≠ 0) (h : p.natAbs < 9007199254740992) : ∃ (m a : Nat) (e : Int), D.read (fl p) = .number (decide (p < 0)) m e ∧ m = p.natAbs * 2 ^ a ∧ e + a = -9 ∧ -1074 ≤ e ∧ m ≠ 0 ∧ m < 9007199254740992 := by
  have hn : p.natAbs ≠ 0 := by omega
  have h52 := log2_le_52 _ hn h
  have hr := nearest_read (decide (p < 0)) p.natAbs (-9) hn h (by omega) (by omega)
  refine ⟨_, _, _, hr, rfl, ?_, ?_, ?_, ?_⟩
  · unfold last; omega
  · unfold last; omega
  · exact Nat.mul_ne_zero hn (Nat.ne_of_gt (Nat.two_pow_pos _))
  · exact (read_num _ hr).2.2

theorem isNaN_fl (p : Int) (h : p.natAbs < 9007199254740992) : isNaN (fl p) = false := by
  by_cases h0 : p = 0
  · subst h0; decide
  · obtain ⟨m, a, e, hr, _⟩ := read_fl p h0 h
    unfold isNaN; rw [hr]; rfl

theorem sgn_abs (p : Int) : (if decide (p < 0) = true then -(p.natAbs : Int) else (p.natAbs : Int)) = p := by
  split <;> rename_i h <;> simp at h <;> omega

theorem K_fl (p : Int) (h : p.natAbs < 9007199254740992) : K (fl p) = p * (Q : Int) := by
  by_cases h0 : p = 0
  · subst h0
    rw [fl_zero, Int.zero_mul]
    show val (D.read 0) = 0
    rw [show D.read 0 = .number false 0 (-1074) from by decide]
    show signed false 0 _ = 0
    rw [signed_eq]; simp
  · obtain ⟨m, a, e, hr, hm, he, h1, _, _⟩ := read_fl p h0 h
    unfold K
    rw [hr]
    show signed (decide (p < 0)) m (e + 1074).toNat = _
    rw [signed_eq, hm]
    have hQ : (Q : Int) = 2 ^ a * 2 ^ (e + 1074).toNat := by
      rw [← Int.pow_add, show a + (e + 1074).toNat = e1065 by rw [e1065_eq]; omega]
      unfold Q
      exact Int.natCast_pow 2 e1065
    rw [hQ, Int.natCast_mul, Int.natCast_pow]
    conv => rhs; rw [← sgn_abs p]
    split
    · rw [Int.mul_assoc, Int.neg_mul]; rfl
    · rw [Int.mul_assoc]; rfl

/-- Whatever has the value of p parts is written as that. -/
theorem write_fl (s : Bool) (m : Nat) (e : Int) (p : Int) (hp0 : p ≠ 0) (hp : p.natAbs < 9007199254740992) (P : Nat) (hs : s = decide (p < 0)) (hP : 9 ≤ P) (he : 0 ≤ e + P)
    (hv : m * 2 ^ (e + P).toNat = p.natAbs * 2 ^ (P - 9)) : D.write (.number s m e) = fl p := by
  subst hs
  unfold fl
  show D.nearest _ m e = _
  have hn : p.natAbs ≠ 0 := by omega
  by_cases hc : e ≤ -9
  · have hm : m = p.natAbs * 2 ^ (-9 - e).toNat := by
      have h1 : P - 9 = (-9 - e).toNat + (e + P).toNat := by omega
      rw [h1, Nat.pow_add, ← Nat.mul_assoc] at hv
      exact Nat.eq_of_mul_eq_mul_right (Nat.two_pow_pos _) hv
    rw [hm, nearest_scale _ _ _ _ hn hp (by omega)]
    congr 1; omega
  · have hm : p.natAbs = m * 2 ^ (e + 9).toNat := by
      have h1 : (e + P).toNat = (e + 9).toNat + (P - 9) := by omega
      rw [h1, Nat.pow_add, ← Nat.mul_assoc] at hv
      exact (Nat.eq_of_mul_eq_mul_right (Nat.two_pow_pos _) hv).symm
    have hm0 : m ≠ 0 := fun h => by rw [h, Nat.zero_mul] at hm; exact hn hm
    have hml : m < 9007199254740992 := by
      have := Nat.le_mul_of_pos_right m (Nat.two_pow_pos (e + 9).toNat)
      omega
    rw [hm, nearest_scale _ _ _ _ hm0 hml (by omega)]
    congr 1; omega
/-! ### operations -/
abbrev c512 : Nat := 4647714815446351872
theorem read_512 : D.read c512 = .number false 4503599627370496 (-43) := by decide

/-- A number that is no NaN and no infinity. -/
def fin (x : Nat) : Prop := ∃ s m e, D.read x = .number s m e
theorem fin.notNaN {x : Nat} (h : fin x) : isNaN x = false := by
  obtain ⟨s, m, e, h⟩ := h
  unfold isNaN; rw [h]; rfl

theorem val_num (s : Bool) (m : Nat) (e : Int) : val (.number s m e) = (if s then -((m : Int) * 2 ^ (e + 1074).toNat) else (m : Int) * 2 ^ (e + 1074).toNat) := signed_eq _ _ _
theorem K_num {x : Nat} {s : Bool} {m : Nat} {e : Int} (h : D.read x = .number s m e) : K x = (if s then -((m : Int) * 2 ^ (e + 1074).toNat) else (m : Int) * 2 ^ (e + 1074).toNat) := by
  unfold K; rw [h]; exact signed_eq _ _ _
theorem K_abs {x : Nat} {s : Bool} {m : Nat} {e : Int} (h : D.read x = .number s m e) : (K x).natAbs = m * 2 ^ (e + 1074).toNat := by
  have e2 : (m : Int) * 2 ^ (e + 1074).toNat = ((m * 2 ^ (e + 1074).toNat : Nat) : Int) := by rw [Int.natCast_mul, Int.natCast_pow]; rfl
  rw [K_num h, e2]
  split <;> omega

theorem fin_of_K {x : Nat} (h : isNaN x = false) (h1 : -(big : Int) < K x) (h2 : K x < (big : Int)) : fin x := by
  cases hr : D.read x with
  | nan s t => unfold isNaN at h; rw [hr] at h; cases h
  | infinity s =>
    exfalso
    unfold K at h1 h2
    rw [hr] at h1 h2
    cases s
    · have : val (.infinity false) = (big : Int) := rfl
      omega
    · have : val (.infinity true) = -(big : Int) := rfl
      omega
  | number s m e => exact ⟨s, m, e, hr⟩

theorem fin_fl (p : Int) (h : p.natAbs < 9007199254740992) : fin (fl p) := by
  by_cases h0 : p = 0
  · subst h0; exact ⟨false, 0, -1074, by decide⟩
  · obtain ⟨m, a, e, hr, _⟩ := read_fl p h0 h
    exact ⟨_, _, _, hr⟩

theorem two_pow_log2 {m : Nat} {a b : Nat} (hm : m ≠ 0) (h : m * 2 ^ a ≤ 2 ^ b) : m.log2 + a ≤ b := by
  have h1 := log2_mul_pow m a hm
  have h2 : m * 2 ^ a ≠ 0 := Nat.mul_ne_zero hm (Nat.ne_of_gt (Nat.two_pow_pos a))
  have h3 : 2 ^ (m.log2 + a) ≤ 2 ^ b := by rw [← h1]; exact Nat.le_trans (Nat.log2_self_le h2) h
  exact (Nat.pow_le_pow_iff_right (by omega)).1 h3

/-- Times 512. -/
theorem mul_512 (t : Nat) (ht : fin t) (hb : (K t).natAbs ≤ 2 ^ 43 * Q) : ∃ r, D.mul t c512 = some r ∧ fin r ∧ K r = 512 * K t := by
  obtain ⟨s, m, i, hr⟩ := ht
  have hn := read_num _ hr
  have hK := K_num hr
  unfold Format.mul
  rw [hr, read_512]
  refine ⟨_, rfl, ?_⟩
  show fin (D.nearest (s ^^ false) (m * 4503599627370496) (i + -43)) ∧ _
  by_cases hm : m = 0
  · subst hm
    rw [Nat.zero_mul, nearest_zero]
    have hz : D.read (D.word (s ^^ false) 0) = .number (s ^^ false) 0 (-1074) := by rw [read_word _ _ (by omega), if_pos (by omega)]
    refine ⟨⟨_, _, _, hz⟩, ?_⟩
    show K (D.write (.number (s ^^ false) (0 * 4503599627370496) (i + -43))) = _
    rw [Nat.zero_mul]
    show K (D.nearest (s ^^ false) 0 (i + -43)) = _
    rw [nearest_zero, K_num hz, hK]
    simp
  · have h52 := log2_le_52 m hm hn.2.2
    have hlog : m.log2 + (i + 1074).toNat ≤ 43 + e1065 := by
      refine two_pow_log2 hm ?_
      rw [← K_abs hr]
      refine Nat.le_trans hb ?_
      unfold Q
      rw [← Nat.pow_add]
      exact Nat.le_refl _
    rw [e1065_eq] at hlog
    have hr2 := nearest_read (s ^^ false) m (i + 9) hm hn.2.2 (by omega) (by omega)
    have hsc := nearest_scale (s ^^ false) m 52 (i + -43) hm hn.2.2 (by omega)
    rw [show (2 : Nat) ^ 52 = 4503599627370496 from rfl, show i + -43 + ((52 : Nat) : Int) = i + 9 by omega] at hsc
    have hw : D.write (.number (s ^^ false) (m * 4503599627370496) (i + -43)) = D.nearest (s ^^ false) m (i + 9) := hsc
    rw [hsc]
    refine ⟨⟨_, _, _, hr2⟩, ?_⟩
    rw [show D.write (Datum.number (s ^^ false) (m * 4503599627370496) (i + -43)) = D.nearest (s ^^ false) m (i + 9) from hsc, K_num hr2, hK]
    have e1 : ((m * 2 ^ (i + 9 - last m (i + 9)).toNat : Nat) : Int) * 2 ^ (last m (i + 9) + 1074).toNat = 512 * ((m : Int) * 2 ^ (i + 1074).toNat) := by
      rw [Int.natCast_mul, Int.natCast_pow, Int.mul_assoc, show (((2 : Nat) : Int)) = 2 from rfl, ← Int.pow_add]
      have : (i + 9 - last m (i + 9)).toNat + (last m (i + 9) + 1074).toNat = (i + 1074).toNat + 9 := by unfold last; omega
      rw [this, Int.pow_add, show (2 : Int) ^ 9 = 512 from rfl]
      generalize (2 : Int) ^ (i + 1074).toNat = z
      rw [← Int.mul_assoc, Int.mul_comm _ 512]
    rw [e1]
    cases s <;> simp <;> omega

theorem fl_mul (p : Int) (h : (512 * p).natAbs < 9007199254740992) : D.mul (fl p) c512 = some (fl (512 * p)) := by
  by_cases h0 : p = 0
  · subst h0; decide
  · obtain ⟨m, a, e, hr, hm, he, h1, hm0, hml⟩ := read_fl p h0 (by omega)
    unfold Format.mul
    rw [hr, read_512]
    show some (D.write (.number (decide (p < 0) ^^ false) (m * 4503599627370496) (e + -43))) = _
    congr 1
    refine write_fl _ _ _ _ (by omega) h (52 + a) (by simp; omega) (by omega) (by omega) ?_
    rw [show (e + -43 + ((52 + a : Nat) : Int)).toNat = 0 by omega, hm, show 52 + a - 9 = 43 + a by omega, Nat.pow_add, Nat.pow_zero, Nat.mul_one]
    have : (512 * p).natAbs = 512 * p.natAbs := by omega
    rw [this, show (4503599627370496 : Nat) = 512 * 2 ^ 43 from rfl]
    generalize 2 ^ a = z
    generalize (2 : Nat) ^ 43 = y
    generalize p.natAbs = x
    rw [Nat.mul_comm 512 x, Nat.mul_comm y z, Nat.mul_assoc x z, Nat.mul_assoc x 512, Nat.mul_left_comm z 512, Nat.mul_comm z y]

theorem fl_div (p : Int) (h : (512 * p).natAbs < 9007199254740992) : D.div (fl (512 * p)) c512 = some (fl p) := by
  by_cases h0 : p = 0
  · subst h0; decide
  · obtain ⟨m, a, e, hr, hm, he, h1, hm0, hml⟩ := read_fl (512 * p) (by omega) h
    have h52 := log2_le_52 m hm0 hml
    unfold Format.div
    rw [hr, read_512]
    unfold Datum.quotient
    simp only [show ¬ (4503599627370496 : Nat) = 0 by omega, if_false, Option.map_some]
    have hlog : (4503599627370496 : Nat).log2 = 52 := by decide
    rw [hlog, show D.fractionBits + 2 + 52 - m.log2 = (54 - m.log2) + 52 by rw [frac_eq]; omega, Nat.shiftLeft_eq, Nat.pow_add, ← Nat.mul_assoc, show (2 : Nat) ^ 52 = 4503599627370496 from rfl, Nat.mul_div_cancel _ (by omega), Nat.mul_mod_left]
    congr 1
    simp only [bne_self_eq_false, Bool.toNat_false, Nat.add_zero]
    have hle : e ≤ -9 := by omega
    refine write_fl _ _ _ _ h0 (by omega) (a + 200) (by simp; omega) (by omega) (by omega) ?_
    have hp : (512 * p).natAbs = p.natAbs * 512 := by omega
    have e1 : (e - -43 - (((54 - m.log2) + 52 : Nat) : Int) - 1 + ((a + 200 : Nat) : Int)).toNat = m.log2 + 127 := by omega
    have e2 : 2 ^ (54 - m.log2) * 2 ^ (m.log2 + 127) = 2 ^ 181 := by rw [← Nat.pow_add]; congr 1; omega
    rw [e1, Nat.mul_assoc, Nat.mul_assoc, e2, hm, hp, show a + 200 - 9 = a + 191 by omega, Nat.pow_add 2 a, show (2 : Nat) ^ 191 = 512 * (2 * 2 ^ 181) from rfl]
    generalize (2 : Nat) ^ 181 = y
    generalize 2 ^ a = z
    generalize p.natAbs = x
    rw [Nat.mul_assoc x, Nat.mul_assoc x, Nat.mul_left_comm 2 x, Nat.mul_comm 512 z, Nat.mul_assoc z 512, Nat.mul_left_comm 2 z, Nat.mul_left_comm 2 512]

/-- Cut towards zero. -/
noncomputable def U : Nat := 512 * Q
theorem U_eq : U = 2 ^ e1074 := by unfold U Q; rw [show (512 : Nat) = 2 ^ 9 from rfl, ← Nat.pow_add, show 9 + e1065 = e1074 by rw [e1065_eq, e1074_eq]]
theorem U_pos : (0 : Int) < (U : Int) := by rw [U_eq]; exact Int.natCast_pos.2 (Nat.two_pow_pos _)

theorem cut_zero (s : Bool) (m d : Nat) : Toward.zero.cut s m d = m / 2 ^ d := by
  unfold Toward.cut
  simp only [Nat.shiftLeft_eq, Nat.one_mul, Bool.toNat_false, Nat.add_zero]
  by_cases h : d ≤ m.log2 + 2
  · rw [Nat.min_eq_left h]
  · rw [Nat.min_eq_right (by omega)]
    have h1 : m < 2 ^ (m.log2 + 2) := by
      have := @Nat.lt_log2_self m
      have h2 : 2 ^ (m.log2 + 1) ≤ 2 ^ (m.log2 + 2) := Nat.pow_le_pow_right (by omega) (by omega)
      omega
    have h3 : 2 ^ (m.log2 + 2) ≤ 2 ^ d := Nat.pow_le_pow_right (by omega) (by omega)
    rw [Nat.div_eq_of_lt h1, Nat.div_eq_of_lt (by omega)]

/-- m·2^e without its digits behind the point. -/
theorem whole_part (s : Bool) (m : Nat) (e : Int) (he : -1074 ≤ e) : Toward.zero.cut s (m <<< e.toNat) (-e).toNat = m * 2 ^ (e + 1074).toNat / 2 ^ e1074 := by
  rw [cut_zero, Nat.shiftLeft_eq]
  by_cases h : 0 ≤ e
  · rw [show (-e).toNat = 0 by omega, Nat.pow_zero, Nat.div_one, show (e + 1074).toNat = e.toNat + e1074 by rw [e1074_eq]; omega, Nat.pow_add, ← Nat.mul_assoc, Nat.mul_div_cancel _ (Nat.two_pow_pos _)]
  · rw [show e.toNat = 0 by omega, Nat.pow_zero, Nat.mul_one]
    have h1 : 2 ^ e1074 = 2 ^ (-e).toNat * 2 ^ (e + 1074).toNat := by rw [← Nat.pow_add, show (-e).toNat + (e + 1074).toNat = e1074 by rw [e1074_eq]; omega]
    rw [h1, Nat.mul_div_mul_right _ _ (Nat.two_pow_pos _)]

theorem toInt_K (x : Nat) (hx : fin x) : (D.read x).toInt .zero = some (Int.tdiv (K x) (U : Int)) := by
  obtain ⟨s, m, e, hr⟩ := hx
  have hn := read_num _ hr
  rw [hr]
  unfold Datum.toInt Datum.integral
  simp only
  rw [whole_part _ _ _ hn.1, K_num hr, U_eq]
  congr 1
  rw [signed_eq, Int.pow_zero, Int.mul_one]
  have e2 : (m : Int) * 2 ^ (e + 1074).toNat = ((m * 2 ^ (e + 1074).toNat : Nat) : Int) := by rw [Int.natCast_mul, Int.natCast_pow]; rfl
  rw [e2]
  generalize m * 2 ^ (e + 1074).toNat = z
  generalize 2 ^ e1074 = y
  cases s
  · simp only [Bool.false_eq_true, if_false]
    exact (Int.ofNat_tdiv z y).symm
  · simp only [if_true]
    rw [Int.neg_tdiv, ← Int.ofNat_tdiv]

theorem tdiv_cases (a b : Int) : (0 ≤ a ∧ Int.tdiv a b = a / b) ∨ (a < 0 ∧ Int.tdiv a b = -((-a) / b)) := by
  by_cases h : 0 ≤ a
  · exact .inl ⟨h, Int.tdiv_eq_ediv_of_nonneg h⟩
  · right
    refine ⟨by omega, ?_⟩
    have : a = -(-a) := by omega
    rw [this, Int.neg_tdiv, Int.tdiv_eq_ediv_of_nonneg (by omega)]
    simp

/-- Down. -/
theorem cut_down (s : Bool) (m d : Nat) : Toward.down.cut s m d = m / 2 ^ d + (s && m % 2 ^ d != 0).toNat := by
  unfold Toward.cut
  simp only [Nat.shiftLeft_eq, Nat.one_mul]
  by_cases h : d ≤ m.log2 + 2
  · rw [Nat.min_eq_left h]
  · rw [Nat.min_eq_right (by omega)]
    have h1 : m < 2 ^ (m.log2 + 2) := by
      have := @Nat.lt_log2_self m
      have h2 : 2 ^ (m.log2 + 1) ≤ 2 ^ (m.log2 + 2) := Nat.pow_le_pow_right (by omega) (by omega)
      omega
    have h3 : 2 ^ (m.log2 + 2) ≤ 2 ^ d := Nat.pow_le_pow_right (by omega) (by omega)
    rw [Nat.div_eq_of_lt h1, Nat.div_eq_of_lt (by omega), Nat.mod_eq_of_lt h1, Nat.mod_eq_of_lt (by omega)]

theorem whole_down (s : Bool) (m : Nat) (e : Int) (he : -1074 ≤ e) : Toward.down.cut s (m <<< e.toNat) (-e).toNat = m * 2 ^ (e + 1074).toNat / 2 ^ e1074 + (s && m * 2 ^ (e + 1074).toNat % 2 ^ e1074 != 0).toNat := by
  rw [cut_down, Nat.shiftLeft_eq]
  by_cases h : 0 ≤ e
  · rw [show (-e).toNat = 0 by omega, Nat.pow_zero, Nat.div_one, show (e + 1074).toNat = e.toNat + e1074 by rw [e1074_eq]; omega, Nat.pow_add, ← Nat.mul_assoc, Nat.mul_div_cancel _ (Nat.two_pow_pos _), Nat.mul_mod_left, Nat.mod_one]
  · rw [show e.toNat = 0 by omega, Nat.pow_zero, Nat.mul_one]
    have h1 : 2 ^ e1074 = 2 ^ (-e).toNat * 2 ^ (e + 1074).toNat := by rw [← Nat.pow_add, show (-e).toNat + (e + 1074).toNat = e1074 by rw [e1074_eq]; omega]
    rw [h1, Nat.mul_div_mul_right _ _ (Nat.two_pow_pos _), Nat.mul_mod_mul_right]
    have hp := Nat.two_pow_pos (e + 1074).toNat
    have hb : (m % 2 ^ (-e).toNat * 2 ^ (e + 1074).toNat != 0) = (m % 2 ^ (-e).toNat != 0) := by
      generalize 2 ^ (e + 1074).toNat = y at *
      generalize m % 2 ^ (-e).toNat = z
      by_cases hz : z = 0
      · subst hz; simp
      · have h3 : z * y ≠ 0 := Nat.mul_ne_zero hz (by omega)
        have h4 : (z * y != 0) = true := by simpa using h3
        have h5 : (z != 0) = true := by simpa using hz
        rw [h4, h5]
    rw [hb]

theorem int_div_neg (z y : Nat) (hy : 0 < y) : (-(z : Int)) / (y : Int) = -(((z / y + (z % y != 0).toNat : Nat) : Nat) : Int) := by
  have h1 := Nat.div_add_mod z y
  have h2 := Nat.mod_lt z hy
  generalize hq : z / y = q at *
  generalize hr : z % y = r at *
  have hz : (z : Int) = (y : Int) * (q : Int) + (r : Int) := by exact_mod_cast h1.symm
  by_cases h : r = 0
  · subst h
    rw [hz]
    simp only [bne_self_eq_false, Bool.toNat_false, Nat.add_zero]
    rw [show -((y : Int) * q + ((0 : Nat) : Int)) = (y : Int) * (-(q : Int)) by rw [Int.mul_neg]; omega, Int.mul_ediv_cancel_left _ (by omega)]
  · have hb : (r != 0) = true := by simp [h]
    rw [hb]
    have : -(z : Int) = ((y - r : Nat) : Int) + (y : Int) * (-((q + true.toNat : Nat) : Int)) := by
      rw [hz, Int.mul_neg]
      push_cast
      simp only [Bool.toNat_true]
      rw [Int.mul_add]
      omega
    rw [this, Int.add_mul_ediv_left _ _ (by omega), Int.ediv_eq_zero_of_lt (by omega) (by omega)]
    omega

theorem floatOfInt_fl (n : Int) (h : n.natAbs < 9007199254740992) : FloatKind.f64.nearest n = fl (512 * n) := by
  by_cases h0 : n = 0
  · subst h0; decide
  · have h1 := nearest_scale (decide (n < 0)) n.natAbs 9 (-9) (by omega) h (by omega)
    unfold fl
    rw [show (512 * n).natAbs = n.natAbs * 2 ^ 9 by omega, show decide (512 * n < 0) = decide (n < 0) by rw [Bool.eq_iff_iff]; simp; omega, h1]
    rfl

theorem floor_K (x : Nat) (hx : fin x) (h0 : K x ≠ 0) (hb : (K x / (U : Int)).natAbs < 9007199254740992) : FloatKind.f64.encode ((D.read x).integral .down) = fl (512 * (K x / (U : Int))) := by
  obtain ⟨s, m, e, hr⟩ := hx
  have hn := read_num _ hr
  rw [hr]
  unfold Datum.integral
  simp only
  rw [whole_down _ _ _ hn.1]
  have hK := K_num hr
  have e2 : (m : Int) * 2 ^ (e + 1074).toNat = ((m * 2 ^ (e + 1074).toNat : Nat) : Int) := by rw [Int.natCast_mul, Int.natCast_pow]; rfl
  rw [e2] at hK
  rw [← floatOfInt_fl _ hb]
  unfold FloatKind.nearest
  congr 1
  rw [hK] at h0 ⊢
  rw [U_eq]
  have hy := Nat.two_pow_pos e1074
  generalize m * 2 ^ (e + 1074).toNat = z at *
  generalize 2 ^ e1074 = y at *
  cases s
  · simp only [Bool.false_eq_true, if_false] at h0 ⊢
    rw [← Int.natCast_ediv, Int.natAbs_natCast]
    have : ¬ ((z / y : Nat) : Int) < 0 := Int.not_lt.2 (Int.natCast_nonneg _)
    rw [decide_eq_false this]
    simp
  · simp only [if_true] at h0 ⊢
    rw [int_div_neg _ _ hy]
    simp only [Bool.true_and]
    have hpos : 0 < z / y + (z % y != 0).toNat := by
      by_cases h : z % y = 0
      · have h1 := Nat.div_add_mod z y
        have : z / y ≠ 0 := fun h2 => by rw [h, h2] at h1; simp at h1; exact h0 (by rw [← h1]; rfl)
        exact Nat.lt_of_lt_of_le (Nat.pos_of_ne_zero this) (Nat.le_add_right _ _)
      · have hb : (z % y != 0) = true := by simp [h]
        rw [hb]; simp
    generalize z / y + (z % y != 0).toNat = v at *
    have : (-(v : Int) < 0) := by omega
    rw [decide_eq_true this, Int.natAbs_neg, Int.natAbs_natCast]

theorem scaled (s : Bool) (m : Nat) (i base : Int) (h : base ≤ i) (hb : -1074 ≤ base) : signed s m (i - base).toNat * 2 ^ (base + 1074).toNat = val (.number s m i) := by
  show _ = signed s m (i + 1074).toNat
  rw [← signed_add]
  congr 1; omega

theorem sum_fl {s t : Bool} {m n : Nat} {i j p q : Int} (hi : -1074 ≤ i) (hj : -1074 ≤ j) (h1 : val (.number s m i) = p * (Q : Int)) (h2 : val (.number t n j) = q * (Q : Int)) (h0 : p + q ≠ 0) (hb : (p + q).natAbs < 9007199254740992) :
    ((Datum.number s m i).sum (.number t n j)).map D.write = some (fl (p + q)) := by
  unfold Datum.sum
  simp only
  have hbase : -1074 ≤ min i j := by omega
  have h3 : (signed s m (i - min i j).toNat + signed t n (j - min i j).toNat) * 2 ^ (min i j + 1074).toNat = (p + q) * (Q : Int) := by
    rw [Int.add_mul, scaled _ _ _ _ (by omega) hbase, scaled _ _ _ _ (by omega) hbase, h1, h2, Int.add_mul]
  generalize signed s m (i - min i j).toNat + signed t n (j - min i j).toNat = T at *
  generalize min i j = base at *
  have hp := pow2_pos (base + 1074).toNat
  have hT : T ≠ 0 := fun e => by
    rw [e, Int.zero_mul] at h3
    have := Int.mul_ne_zero h0 (show (Q : Int) ≠ 0 by have := Q_pos; omega)
    omega
  have hs : decide (T < 0) = decide (p + q < 0) := by
    rw [Bool.eq_iff_iff]; simp only [decide_eq_true_eq]
    constructor
    · intro h
      have h4 := Int.mul_neg_of_neg_of_pos h hp
      rw [h3] at h4
      exact Int.lt_of_not_ge fun h5 => by have := Int.mul_nonneg h5 (Int.le_of_lt Q_pos); omega
    · intro h
      have h4 := Int.mul_neg_of_neg_of_pos h Q_pos
      rw [← h3] at h4
      exact Int.lt_of_not_ge fun h5 => by have := Int.mul_nonneg h5 (Int.le_of_lt hp); omega
  rw [if_neg hT]
  simp only [Option.map_some]
  congr 1
  refine write_fl _ _ _ _ h0 hb e1074 hs (by rw [e1074_eq]; omega) (by rw [e1074_eq]; omega) ?_
  rw [show (base + (e1074 : Nat)).toNat = (base + 1074).toNat by rw [e1074_eq]; rfl, show e1074 - 9 = e1065 by rw [e1074_eq, e1065_eq]]
  have h5 := congrArg Int.natAbs h3
  rw [Int.natAbs_mul, Int.natAbs_mul, Int.natAbs_pow] at h5
  exact h5

theorem add_fl (x y : Nat) (p q : Int) (hx : fin x) (hy : fin y) (h1 : K x = p * (Q : Int)) (h2 : K y = q * (Q : Int)) (h0 : p + q ≠ 0) (hb : (p + q).natAbs < 9007199254740992) : D.add x y = some (fl (p + q)) := by
  obtain ⟨s, m, i, hr⟩ := hx
  obtain ⟨t, n, j, hr2⟩ := hy
  unfold K at h1 h2
  unfold Format.add
  rw [hr] at h1 ⊢
  rw [hr2] at h2 ⊢
  exact sum_fl (read_num _ hr).1 (read_num _ hr2).1 h1 h2 h0 hb
theorem sub_fl (x y : Nat) (p q : Int) (hx : fin x) (hy : fin y) (h1 : K x = p * (Q : Int)) (h2 : K y = q * (Q : Int)) (h0 : p - q ≠ 0) (hb : (p - q).natAbs < 9007199254740992) : D.sub x y = some (fl (p - q)) := by
  obtain ⟨s, m, i, hr⟩ := hx
  obtain ⟨t, n, j, hr2⟩ := hy
  unfold K at h1 h2
  unfold Format.sub
  rw [hr] at h1 ⊢
  rw [hr2] at h2 ⊢
  have h3 : val (.number (!t) n j) = (-q) * (Q : Int) := by
    rw [val_num] at h2 ⊢
    cases t
    · simp at h2 ⊢; rw [h2, Int.neg_mul]
    · simp at h2 ⊢; rw [Int.neg_mul, ← h2]; omega
  have := sum_fl (p := p) (q := -q) (read_num _ hr).1 (read_num _ hr2).1 h1 h3 (by omega) (by omega)
  rw [← Int.sub_eq_add_neg] at this
  exact this

theorem fl_word (p : Int) : ∃ r, fl p = D.word (decide (p < 0)) r ∧ r < 9223372036854775808 := by
  unfold fl Format.nearest
  split
  · exact ⟨0, rfl, by omega⟩
  · exact ⟨_, rfl, by rw [inf_eq]; omega⟩

theorem xor_lo (r : Nat) (h : r < 9223372036854775808) : r ^^^ 2 ^ 63 = 9223372036854775808 + r ∧ (9223372036854775808 + r) ^^^ 2 ^ 63 = r := by
  have h1 : 9223372036854775808 + r = r ^^^ 2 ^ 63 := by
    have h2 := Nat.two_pow_add_eq_or_of_lt (i := 63) (b := r) h 1
    rw [Nat.mul_one] at h2
    rw [show (9223372036854775808 : Nat) = 2 ^ 63 from rfl, h2]
    apply Nat.eq_of_testBit_eq
    intro i
    rw [Nat.testBit_or, Nat.testBit_xor, Nat.testBit_two_pow]
    by_cases hi : 63 = i
    · subst hi
      rw [Nat.testBit_lt_two_pow h]; rfl
    · simp [hi]
  refine ⟨h1.symm, ?_⟩
  rw [h1, Nat.xor_assoc, Nat.xor_self, Nat.xor_zero]

theorem neg_fl (p : Int) (h : p.natAbs < 9007199254740992) : fin (Op.negFloat .f64 (fl p)) ∧ K (Op.negFloat .f64 (fl p)) = (-p) * (Q : Int) := by
  obtain ⟨r, hr, hl⟩ := fl_word p
  have hx := xor_lo r hl
  have hn : Op.negFloat .f64 (fl p) = D.word (!decide (p < 0)) r := by
    show fl p ^^^ 2 ^ 63 = _
    rw [hr]
    unfold Format.word
    rw [sign_eq]
    by_cases hp : p < 0
    · rw [decide_eq_true hp]; simp only [if_true, Bool.not_true, Bool.false_eq_true, if_false]; exact hx.2
    · rw [decide_eq_false hp]; simp only [if_true, Bool.not_false, Bool.false_eq_true, if_false]; exact hx.1
  have hK := K_fl p h
  obtain ⟨s, m, e, hf⟩ := fin_fl p h
  rw [hn]
  have h1 := read_word (decide (p < 0)) r hl
  rw [← hr, hf] at h1
  have h2 : D.read (D.word (!decide (p < 0)) r) = .number (!s) m e := by
    rw [read_word _ _ hl]
    split at h1
    · rename_i h3
      rw [if_pos h3]
      injection h1 with a b c; rw [a, b, c]
    · rename_i h3
      rw [if_neg h3]
      split at h1
      · rename_i h4
        rw [if_pos h4]
        injection h1 with a b c; rw [a, b, c]
      · split at h1 <;> cases h1
  refine ⟨⟨_, _, _, h2⟩, ?_⟩
  rw [K_num h2]
  rw [K_num hf] at hK
  cases s
  · simp at hK ⊢; rw [hK, Int.neg_mul]
  · simp at hK ⊢; rw [Int.neg_mul, ← hK]; omega

/-! ### in parts of 512 -/
noncomputable def par (x : Nat) : Int := K x / (Q : Int)
theorem lt_iff (x : Nat) (c : Int) : K x < c * (Q : Int) ↔ par x < c := (Int.ediv_lt_iff_lt_mul Q_pos).symm
theorem ge_iff (x : Nat) (c : Int) : c * (Q : Int) ≤ K x ↔ c ≤ par x := (Int.le_ediv_iff_mul_le Q_pos).symm
theorem le_par {x : Nat} {c : Int} (h : c * (Q : Int) < K x) : c ≤ par x := (ge_iff x c).1 (Int.le_of_lt h)
theorem par_le {x : Nat} {c : Int} (h : K x ≤ c * (Q : Int)) : par x ≤ c := by
  have h1 : par x < c + 1 := (lt_iff x (c + 1)).1 (by rw [Int.add_mul]; have := Q_pos; omega)
  omega
theorem par_mono {x y : Nat} (h : K x ≤ K y) : par x ≤ par y := Int.ediv_le_ediv Q_pos h
theorem par_self (x : Nat) : par x * (Q : Int) ≤ K x := (ge_iff x _).2 (Int.le_refl _)
theorem par_next (x : Nat) : K x < (par x + 1) * (Q : Int) := (lt_iff x _).2 (by omega)
theorem par_fl (p : Int) (h : p.natAbs < 9007199254740992) : par (fl p) = p := by
  unfold par; rw [K_fl p h, Int.mul_ediv_cancel _ (by have := Q_pos; omega)]
theorem sec_eq (x : Nat) : K x / (U : Int) = par x / 512 := by
  unfold par U
  rw [Int.natCast_mul, Int.mul_comm, ← Int.ediv_ediv_of_nonneg (by have := Q_pos; omega)]
  rfl
theorem floor512 (x r : Nat) (h : K r = 512 * K x) : K r / (U : Int) = par x := by
  unfold par U
  rw [h, Int.natCast_mul]
  exact Int.mul_ediv_mul_of_pos _ _ (by decide)
theorem whole_eq (k : Int) : (if k < Int.tdiv k (U : Int) * (U : Int) then Int.tdiv k (U : Int) - 1 else Int.tdiv k (U : Int)) = k / (U : Int) := by
  have hU := U_pos
  generalize (U : Int) = u at *
  rcases tdiv_cases k u with ⟨h1, h2⟩ | ⟨h1, h2⟩
  · rw [h2, if_neg]
    have := Int.ediv_mul_le k (show u ≠ 0 by omega)
    omega
  · rw [h2]
    have a1 := Int.ediv_mul_le (-k) (show u ≠ 0 by omega)
    have a2 := Int.lt_ediv_add_one_mul_self (-k) hU
    generalize (-k) / u = n at *
    have e1 : -n * u = -(n * u) := Int.neg_mul _ _
    rw [Int.add_mul] at a2
    by_cases h : k < -n * u
    · rw [if_pos h]
      symm
      refine Int.le_antisymm ?_ ?_
      · have : k / u < -n := Int.ediv_lt_of_lt_mul hU h
        omega
      · refine (Int.le_ediv_iff_mul_le hU).2 ?_
        rw [Int.sub_mul]; omega
    · rw [if_neg h]
      have : k = -n * u := by omega
      rw [this, Int.mul_ediv_cancel _ (by omega)]

/-! ### comparing -/
theorem cmp_lt (x y : Nat) : (D.order x y == some .lt) = (!isNaN x && !isNaN y && decide (K x < K y)) := by
  cases hx : isNaN x
  · cases hy : isNaN y
    · rw [order_eq x y hx hy]
      by_cases h : K x < K y
      · rw [Int.compare_eq_lt.2 h]; simp [h]
      · have : ¬ compare (K x) (K y) = .lt := fun e => h (Int.compare_eq_lt.1 e)
        simp [h, this]
    · rw [order_nan_r x y hy]; simp
  · rw [order_nan_l x y hx]; simp
theorem cmp_gt (x y : Nat) : (D.order x y == some .gt) = (!isNaN x && !isNaN y && decide (K y < K x)) := by
  cases hx : isNaN x
  · cases hy : isNaN y
    · rw [order_eq x y hx hy]
      by_cases h : K y < K x
      · rw [Int.compare_eq_gt.2 h]; simp [h]
      · have : ¬ compare (K x) (K y) = .gt := fun e => h (Int.compare_eq_gt.1 e)
        simp [h, this]
    · rw [order_nan_r x y hy]; simp
  · rw [order_nan_l x y hx]; simp
theorem cmp_eq (x y : Nat) : (D.order x y == some .eq) = (!isNaN x && !isNaN y && decide (K x = K y)) := by
  cases hx : isNaN x
  · cases hy : isNaN y
    · rw [order_eq x y hx hy]
      by_cases h : K x = K y
      · rw [Int.compare_eq_eq.2 h]; simp [h]
      · have : ¬ compare (K x) (K y) = .eq := fun e => h (Int.compare_eq_eq.1 e)
        simp [h, this]
    · rw [order_nan_r x y hy]; simp
  · rw [order_nan_l x y hx]; simp
end Go.My.Flt
end

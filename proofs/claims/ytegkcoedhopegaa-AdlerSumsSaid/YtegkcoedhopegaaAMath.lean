/-
  The two sums of Adler-32 as plain arithmetic: no program, no dump.
-/
namespace Go.My.AdlerMath

/-- The sum of the bytes. -/
def S : List UInt8 → Nat
  | [] => 0
  | b :: l => b.toNat + S l
/-- The sum of the bytes, each as often as it is in a beginning's sum. -/
def T : List UInt8 → Nat
  | [] => 0
  | b :: l => (l.length + 1) * b.toNat + T l

theorem S_append (a b : List UInt8) : S (a ++ b) = S a + S b := by
  induction a with
  | nil => simp [S]
  | cons x a ih => simp [S, ih]; omega
theorem T_append (a b : List UInt8) : T (a ++ b) = T a + b.length * S a + T b := by
  induction a with
  | nil => simp [T, S]
  | cons x a ih =>
    simp only [List.cons_append, T, S, ih, List.length_append]
    have : (a.length + b.length + 1) * x.toNat = (a.length + 1) * x.toNat + b.length * x.toNat := by
      rw [← Nat.add_mul]; congr 1; omega
    rw [this, Nat.mul_add]
    omega

theorem S_snoc (l : List UInt8) (k : Nat) (h : k < l.length) : S (l.take (k + 1)) = S (l.take k) + l[k].toNat := by
  rw [List.take_succ_eq_append_getElem h, S_append]; simp [S]
theorem T_snoc (l : List UInt8) (k : Nat) (h : k < l.length) : T (l.take (k + 1)) = T (l.take k) + (S (l.take k) + l[k].toNat) := by
  rw [List.take_succ_eq_append_getElem h, T_append]; simp [T]; omega

theorem S_le (l : List UInt8) : S l ≤ 255 * l.length := by
  induction l with
  | nil => simp [S]
  | cons b l ih => simp only [S, List.length_cons]; have := b.toNat_lt; omega
theorem T_le (l : List UInt8) : 2 * T l ≤ 255 * (l.length * (l.length + 1)) := by
  induction l with
  | nil => simp [T]
  | cons b l ih =>
    simp only [T, List.length_cons] at *
    have hb := b.toNat_lt
    have h1 : (l.length + 1) * b.toNat ≤ (l.length + 1) * 255 := Nat.mul_le_mul_left _ (by omega)
    have h2 : (l.length + 1) * (l.length + 1 + 1) = l.length * (l.length + 1) + 2 * (l.length + 1) := by
      rw [Nat.mul_add (l.length + 1), Nat.mul_comm (l.length + 1) (l.length + 1), Nat.add_mul l.length 1]; omega
    rw [h2]
    omega
theorem bounds (x y : Nat) (hx : x < 65521) (hy : y < 65521) (l : List UInt8) (h : l.length ≤ 5552) : x + S l < 1500000 ∧ y + l.length * x + T l < 4294967296 := by
  have h1 := S_le l
  have h2 := T_le l
  have h3 : l.length * (l.length + 1) ≤ 5552 * 5553 := Nat.mul_le_mul h (by omega)
  have h4 : l.length * x ≤ 5552 * 65520 := Nat.mul_le_mul h (by omega)
  omega

/-- The checksum's halves. -/
def lo (c : Nat) (l : List UInt8) : Nat := (c % 65536 % 65521 + S l) % 65521
def hi (c : Nat) (l : List UInt8) : Nat := (c / 65536 % 65521 + l.length * (c % 65536 % 65521) + T l) % 65521
def adler (c : Nat) (l : List UInt8) : Nat := hi c l * 65536 + lo c l

theorem lo_lt (c : Nat) (l : List UInt8) : lo c l < 65521 := Nat.mod_lt _ (by omega)
theorem hi_lt (c : Nat) (l : List UInt8) : hi c l < 65521 := Nat.mod_lt _ (by omega)
theorem adler_lt (c : Nat) (l : List UInt8) : adler c l < 4294967296 := by
  have := lo_lt c l; have := hi_lt c l; unfold adler; omega
theorem adler_lo (c : Nat) (l : List UInt8) : adler c l % 65536 % 65521 = lo c l := by
  have := lo_lt c l; have := hi_lt c l; unfold adler; omega
theorem adler_hi (c : Nat) (l : List UInt8) : adler c l / 65536 % 65521 = hi c l := by
  have := lo_lt c l; have := hi_lt c l; unfold adler; omega

theorem mod_mul_mod (p n q t : Nat) : (p % 65521 + n * (q % 65521) + t) % 65521 = (p + n * q + t) % 65521 := by
  simp [Nat.add_mod, Nat.mul_mod]

theorem lo_append (c : Nat) (a b : List UInt8) : lo c (a ++ b) = lo (adler c a) b := by
  rw [lo, lo, adler_lo, lo, S_append]; omega
theorem hi_append (c : Nat) (a b : List UInt8) : hi c (a ++ b) = hi (adler c a) b := by
  rw [show hi (adler c a) b = (hi c a + b.length * lo c a + T b) % 65521 from by rw [hi, adler_lo, adler_hi], hi, hi, lo, T_append, List.length_append]
  generalize c % 65536 % 65521 = x
  generalize c / 65536 % 65521 = y
  rw [mod_mul_mod]
  congr 1
  rw [Nat.add_mul, Nat.mul_add]
  omega
theorem add_lo (c : Nat) (a b : List UInt8) : (lo c a + S b) % 65521 = lo c (a ++ b) := by
  rw [lo_append, lo.eq_1 (adler c a), adler_lo]
theorem add_hi (c : Nat) (a b : List UInt8) : (hi c a + b.length * lo c a + T b) % 65521 = hi c (a ++ b) := by
  rw [hi_append, hi.eq_1 (adler c a), adler_lo, adler_hi]
theorem adler_append (c : Nat) (a b : List UInt8) : adler c (a ++ b) = adler (adler c a) b := by
  rw [adler, lo_append, hi_append]; rfl

/-- What two checksums and a length come to. -/
def combLo (a b : Nat) : Nat := (b % 65536 % 65521 + (a % 65536 % 65521 + 65520) % 65521) % 65521
def combHi (a b n : Nat) : Nat := (a / 65536 % 65521 + b / 65536 % 65521 + (a % 65536 % 65521 + 65520) % 65521 * (n % 65521) % 65521) % 65521
def comb (a b n : Nat) : Nat := combHi a b n * 65536 + combLo a b

theorem combLo_int (a b : Nat) : ((b : Int) % 65536 + ((a : Int) % 65536 % 65521 + 65521 - 1)) % 65521 = ((combLo a b : Nat) : Int) := by
  unfold combLo; omega
theorem combHi_int (a b n : Nat) : ((a : Int) / 65536 % 65521 + (b : Int) / 65536 % 65521 + ((a : Int) % 65536 % 65521 + 65521 - 1) % 65521 * ((n : Int) % 65521) % 4294967296) % 65521 = ((combHi a b n : Nat) : Int) := by
  have e1 : ((a : Int) % 65536 % 65521 + 65521 - 1) % 65521 = (((a % 65536 % 65521 + 65520) % 65521 : Nat) : Int) := by omega
  have e2 : (n : Int) % 65521 = ((n % 65521 : Nat) : Int) := by omega
  have h1 : (a % 65536 % 65521 + 65520) % 65521 ≤ 65520 := by omega
  have h2 : n % 65521 ≤ 65520 := by omega
  have h3 := Nat.mul_le_mul h1 h2
  rw [e1, e2, ← Int.natCast_mul]
  unfold combHi
  generalize (a % 65536 % 65521 + 65520) % 65521 * (n % 65521) = m at *
  omega

theorem comb_adler (a b : List UInt8) : comb (adler 1 a) (adler 1 b) b.length = adler 1 (a ++ b) := by
  have hl : combLo (adler 1 a) (adler 1 b) = lo 1 (a ++ b) := by
    rw [combLo, adler_lo, adler_lo, lo, lo, lo, S_append]; omega
  have hh : combHi (adler 1 a) (adler 1 b) b.length = hi 1 (a ++ b) := by
    have e : ((1 + S a) % 65521 + 65520) % 65521 = S a % 65521 := by omega
    rw [combHi, adler_lo, adler_hi, adler_hi, hi, hi, hi, lo, T_append, List.length_append]
    simp only [Nat.reduceMod, Nat.reduceDiv, Nat.zero_add, Nat.mul_one]
    rw [e, ← Nat.mul_mod, Nat.mul_comm (S a)]
    generalize b.length * S a = z
    omega
  rw [comb, hl, hh]; rfl
theorem comb_nil (a : List UInt8) : comb (adler 1 a) 1 0 = adler 1 a := by
  have := comb_adler a []
  simpa [adler, lo, hi, S, T] using this

theorem S_set (l : List UInt8) (k : Nat) (h : k < l.length) (v : UInt8) : S (l.set k v) + l[k].toNat = S l + v.toNat := by
  induction l generalizing k with
  | nil => simp at h
  | cons b l ih =>
    cases k with
    | zero => simp [S]; omega
    | succ k => simp at h; have := ih k h; simp [S]; omega
theorem adler_set (c : Nat) (l : List UInt8) (k : Nat) (h : k < l.length) (v : UInt8) (hv : v ≠ l[k]) : adler c l ≠ adler c (l.set k v) := by
  intro e
  have h1 : lo c l = lo c (l.set k v) := by rw [← adler_lo, ← adler_lo, e]
  have h2 := S_set l k h v
  have h3 : v.toNat ≠ l[k].toNat := fun e => hv (UInt8.toNat_inj.1 e)
  have h4 := v.toNat_lt
  have h5 := l[k].toNat_lt
  unfold lo at h1
  omega
end Go.My.AdlerMath

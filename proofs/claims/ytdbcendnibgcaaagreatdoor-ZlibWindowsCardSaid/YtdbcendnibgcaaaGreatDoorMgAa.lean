import Derived.WalkKit
import Derived.WalkSpells
import Derived.WalkLawsBesides
import Derived.WalkSmall
import Derived.Laws.AppendOwnNone
import Derived.Lib.BufferRead
import Derived.Lib.Hide
import Derived.Laws.BitsAllLaws
import Derived.IntWalk

section
/-
  The two sums of Adler-32 as plain arithmetic: no program, no dump.
-/
namespace Go.My.AdlerMath

/-- The sum of the bytes. -/
def S : List UInt8 → Nat
  | [] => 0
  | b :: l => b.toNat + S l
/-- The sum of the bytes, each as often as it is in a beginning's sum. -/
def T : List UInt8 → Nat
  | [] => 0
  | b :: l => (l.length + 1) * b.toNat + T l

theorem S_append (a b : List UInt8) : S (a ++ b) = S a + S b := by
  induction a with
  | nil => simp [S]
  | cons x a ih => simp [S, ih]; omega
theorem T_append (a b : List UInt8) : T (a ++ b) = T a + b.length * S a + T b := by
  induction a with
  | nil => simp [T, S]
  | cons x a ih =>
    simp only [List.cons_append, T, S, ih, List.length_append]
    have : (a.length + b.length + 1) * x.toNat = (a.length + 1) * x.toNat + b.length * x.toNat := by
      rw [← Nat.add_mul]; congr 1; omega
    rw [this, Nat.mul_add]
    omega

theorem S_snoc (l : List UInt8) (k : Nat) (h : k < l.length) : S (l.take (k + 1)) = S (l.take k) + l[k].toNat := by
  rw [List.take_succ_eq_append_getElem h, S_append]; simp [S]
theorem T_snoc (l : List UInt8) (k : Nat) (h : k < l.length) : T (l.take (k + 1)) = T (l.take k) + (S (l.take k) + l[k].toNat) := by
  rw [List.take_succ_eq_append_getElem h, T_append]; simp [T]; omega

theorem S_le (l : List UInt8) : S l ≤ 255 * l.length := by
  induction l with
  | nil => simp [S]
  | cons b l ih => simp only [S, List.length_cons]; have := b.toNat_lt; omega
theorem T_le (l : List UInt8) : 2 * T l ≤ 255 * (l.length * (l.length + 1)) := by
  induction l with
  | nil => simp [T]
  | cons b l ih =>
    simp only [T, List.length_cons] at *
    have hb := b.toNat_lt
    have h1 : (l.length + 1) * b.toNat ≤ (l.length + 1) * 255 := Nat.mul_le_mul_left _ (by omega)
    have h2 : (l.length + 1) * (l.length + 1 + 1) = l.length * (l.length + 1) + 2 * (l.length + 1) := by
      rw [Nat.mul_add (l.length + 1), Nat.mul_comm (l.length + 1) (l.length + 1), Nat.add_mul l.length 1]; omega
    rw [h2]
    omega
theorem bounds (x y : Nat) (hx : x < 65521) (hy : y < 65521) (l : List UInt8) (h : l.length ≤ 5552) : x + S l < 1500000 ∧ y + l.length * x + T l < 4294967296 := by
  have h1 := S_le l
  have h2 := T_le l
  have h3 : l.length * (l.length + 1) ≤ 5552 * 5553 := Nat.mul_le_mul h (by omega)
  have h4 : l.length * x ≤ 5552 * 65520 := Nat.mul_le_mul h (by omega)
  omega

/-- The checksum's halves. -/
def lo (c : Nat) (l : List UInt8) : Nat := (c % 65536 % 65521 + S l) % 65521
def hi (c : Nat) (l : List UInt8) : Nat := (c / 65536 % 65521 + l.length * (c % 65536 % 65521) + T l) % 65521
def adler (c : Nat) (l : List UInt8) : Nat := hi c l * 65536 + lo c l

theorem lo_lt (c : Nat) (l : List UInt8) : lo c l < 65521 := Nat.mod_lt _ (by omega)
theorem hi_lt (c : Nat) (l : List UInt8) : hi c l < 65521 := Nat.mod_lt _ (by omega)
theorem adler_lt (c : Nat) (l : List UInt8) : adler c l < 4294967296 := by
  have := lo_lt c l; have := hi_lt c l; unfold adler; omega
theorem adler_lo (c : Nat) (l : List UInt8) : adler c l % 65536 % 65521 = lo c l := by
  have := lo_lt c l; have := hi_lt c l; unfold adler; omega
theorem adler_hi (c : Nat) (l : List UInt8) : adler c l / 65536 % 65521 = hi c l := by
  have := lo_lt c l; have := hi_lt c l; unfold adler; omega

theorem mod_mul_mod (p n q t : Nat) : (p % 65521 + n * (q % 65521) + t) % 65521 = (p + n * q + t) % 65521 := by
  simp [Nat.add_mod, Nat.mul_mod]

theorem lo_append (c : Nat) (a b : List UInt8) : lo c (a ++ b) = lo (adler c a) b := by
  rw [lo, lo, adler_lo, lo, S_append]; omega
theorem hi_append (c : Nat) (a b : List UInt8) : hi c (a ++ b) = hi (adler c a) b := by
  rw [show hi (adler c a) b = (hi c a + b.length * lo c a + T b) % 65521 from by rw [hi, adler_lo, adler_hi], hi, hi, lo, T_append, List.length_append]
  generalize c % 65536 % 65521 = x
  generalize c / 65536 % 65521 = y
  rw [mod_mul_mod]
  congr 1
  rw [Nat.add_mul, Nat.mul_add]
  omega
theorem add_lo (c : Nat) (a b : List UInt8) : (lo c a + S b) % 65521 = lo c (a ++ b) := by
  rw [lo_append, lo.eq_1 (adler c a), adler_lo]
theorem add_hi (c : Nat) (a b : List UInt8) : (hi c a + b.length * lo c a + T b) % 65521 = hi c (a ++ b) := by
  rw [hi_append, hi.eq_1 (adler c a), adler_lo, adler_hi]
theorem adler_append (c : Nat) (a b : List UInt8) : adler c (a ++ b) = adler (adler c a) b := by
  rw [adler, lo_append, hi_append]; rfl

/-- What two checksums and a length come to. -/
def combLo (a b : Nat) : Nat := (b % 65536 % 65521 + (a % 65536 % 65521 + 65520) % 65521) % 65521
def combHi (a b n : Nat) : Nat := (a / 65536 % 65521 + b / 65536 % 65521 + (a % 65536 % 65521 + 65520) % 65521 * (n % 65521) % 65521) % 65521
def comb (a b n : Nat) : Nat := combHi a b n * 65536 + combLo a b

theorem combLo_int (a b : Nat) : ((b : Int) % 65536 + ((a : Int) % 65536 % 65521 + 65521 - 1)) % 65521 = ((combLo a b : Nat) : Int) := by
  unfold combLo; omega
theorem combHi_int (a b n : Nat) : ((a : Int) / 65536 % 65521 + (b : Int) / 65536 % 65521 + ((a : Int) % 65536 % 65521 + 65521 - 1) % 65521 * ((n : Int) % 65521) % 4294967296) % 65521 = ((combHi a b n : Nat) : Int) := by
  have e1 : ((a : Int) % 65536 % 65521 + 65521 - 1) % 65521 = (((a % 65536 % 65521 + 65520) % 65521 : Nat) : Int) := by omega
  have e2 : (n : Int) % 65521 = ((n % 65521 : Nat) : Int) := by omega
  have h1 : (a % 65536 % 65521 + 65520) % 65521 ≤ 65520 := by omega
  have h2 : n % 65521 ≤ 65520 := by omega
  have h3 := Nat.mul_le_mul h1 h2
  rw [e1, e2, ← Int.natCast_mul]
  unfold combHi
  generalize (a % 65536 % 65521 + 65520) % 65521 * (n % 65521) = m at *
  omega

theorem comb_adler (a b : List UInt8) : comb (adler 1 a) (adler 1 b) b.length = adler 1 (a ++ b) := by
  have hl : combLo (adler 1 a) (adler 1 b) = lo 1 (a ++ b) := by
    rw [combLo, adler_lo, adler_lo, lo, lo, lo, S_append]; omega
  have hh : combHi (adler 1 a) (adler 1 b) b.length = hi 1 (a ++ b) := by
    have e : ((1 + S a) % 65521 + 65520) % 65521 = S a % 65521 := by omega
    rw [combHi, adler_lo, adler_hi, adler_hi, hi, hi, hi, lo, T_append, List.length_append]
    simp only [Nat.reduceMod, Nat.reduceDiv, Nat.zero_add, Nat.mul_one]
    rw [e, ← Nat.mul_mod, Nat.mul_comm (S a)]
    generalize b.length * S a = z
    omega
  rw [comb, hl, hh]; rfl
theorem comb_nil (a : List UInt8) : comb (adler 1 a) 1 0 = adler 1 a := by
  have := comb_adler a []
  simpa [adler, lo, hi, S, T] using this

theorem S_set (l : List UInt8) (k : Nat) (h : k < l.length) (v : UInt8) : S (l.set k v) + l[k].toNat = S l + v.toNat := by
  induction l generalizing k with
  | nil => simp at h
  | cons b l ih =>
    cases k with
    | zero => simp [S]; omega
    | succ k => simp at h; have := ih k h; simp [S]; omega
theorem adler_set (c : Nat) (l : List UInt8) (k : Nat) (h : k < l.length) (v : UInt8) (hv : v ≠ l[k]) : adler c l ≠ adler c (l.set k v) := by
  intro e
  have h1 : lo c l = lo c (l.set k v) := by rw [← adler_lo, ← adler_lo, e]
  have h2 := S_set l k h v
  have h3 : v.toNat ≠ l[k].toNat := fun e => hv (UInt8.toNat_inj.1 e)
  have h4 := v.toNat_lt
  have h5 := l[k].toNat_lt
  unfold lo at h1
  omega
end Go.My.AdlerMath
end

section
/-
  Numbers of bytes and digits as plain arithmetic: no program, no dump.
-/
namespace Go.My.NumMath

/-- The number that digits represent, the first one the greatest; d: a digit's number, b: the base. -/
def V (d : UInt8 → Nat) (b : Nat) (l : List UInt8) : Nat := l.foldl (fun v c => v * b + d c) 0

theorem foldl_from (d : UInt8 → Nat) (b : Nat) (l : List UInt8) : ∀ x, l.foldl (fun v c => v * b + d c) x = x * b ^ l.length + V d b l := by
  induction l with
  | nil => intro x; simp [V]
  | cons c t ih =>
    intro x
    have h1 := ih (x * b + d c)
    have h2 := ih (0 * b + d c)
    simp only [List.foldl_cons, List.length_cons]
    have e : V d b (c :: t) = (0 * b + d c) * b ^ t.length + V d b t := h2
    rw [h1, e, Nat.add_mul, Nat.add_mul, Nat.pow_succ, Nat.mul_assoc x b, Nat.mul_comm b]
    simp only [Nat.zero_mul, Nat.zero_add, Nat.add_assoc]
theorem V_nil (d : UInt8 → Nat) (b : Nat) : V d b [] = 0 := rfl
theorem V_snoc (d : UInt8 → Nat) (b : Nat) (l : List UInt8) (c : UInt8) : V d b (l ++ [c]) = V d b l * b + d c := by
  unfold V; rw [List.foldl_append]; rfl
theorem V_cons (d : UInt8 → Nat) (b : Nat) (l : List UInt8) (c : UInt8) : V d b (c :: l) = d c * b ^ l.length + V d b l := by
  have := foldl_from d b l (0 * b + d c)
  simp only [Nat.zero_mul, Nat.zero_add] at this
  rw [← this]; unfold V; simp
theorem V_append (d : UInt8 → Nat) (b : Nat) (l m : List UInt8) : V d b (l ++ m) = V d b l * b ^ m.length + V d b m := by
  rw [← foldl_from]; unfold V; rw [List.foldl_append]
theorem V_take_succ (d : UInt8 → Nat) (b : Nat) (l : List UInt8) (k : Nat) (h : k < l.length) : V d b (l.take (k + 1)) = V d b (l.take k) * b + d l[k] := by
  rw [List.take_succ_eq_append_getElem h, V_snoc]
theorem V_take_le (d : UInt8 → Nat) (b : Nat) (hb : 1 ≤ b) (l : List UInt8) (k : Nat) : V d b (l.take k) ≤ V d b l := by
  have h : V d b l = V d b (l.take k) * b ^ (l.drop k).length + V d b (l.drop k) := by rw [← V_append, List.take_append_drop]
  have h1 := Nat.le_mul_of_pos_right (V d b (l.take k)) (Nat.pow_pos (n := (l.drop k).length) (show 0 < b by omega))
  omega
/-- What is too great stays too great. -/
theorem V_over (d : UInt8 → Nat) (b : Nat) (hb : 1 ≤ b) (l : List UInt8) (k : Nat) (h : k < l.length) (M : Nat) (ho : M < V d b (l.take k) * b) : M < V d b l := by
  have h1 := V_take_le d b hb l (k + 1)
  rw [V_take_succ d b l k h] at h1
  omega
theorem V_lt (d : UInt8 → Nat) (b : Nat) (l : List UInt8) (hd : ∀ c ∈ l, d c < b) : V d b l < b ^ l.length := by
  induction l with
  | nil => simp [V]
  | cons c t ih =>
    rw [V_cons, List.length_cons, Nat.pow_succ]
    have h1 := ih fun c h => hd c (List.mem_cons_of_mem _ h)
    have h2 : (d c + 1) * b ^ t.length ≤ b * b ^ t.length := Nat.mul_le_mul_right _ (hd c List.mem_cons_self)
    rw [Nat.add_mul] at h2
    rw [Nat.mul_comm (b ^ t.length)]
    omega
theorem V_congr {d e : UInt8 → Nat} {b : Nat} {l : List UInt8} (h : ∀ c ∈ l, d c = e c) : V d b l = V e b l := by
  induction l with
  | nil => rfl
  | cons c t ih => rw [V_cons, V_cons, h c List.mem_cons_self, ih fun c h1 => h c (List.mem_cons_of_mem _ h1)]

/-- The number of bytes, the highest first, or the lowest. -/
def num (big : Bool) (l : List UInt8) : Nat := V UInt8.toNat 256 (if big then l else l.reverse)
theorem num_lt (big : Bool) (l : List UInt8) : num big l < 256 ^ l.length := by
  unfold num
  cases big
  · have := V_lt UInt8.toNat 256 l.reverse fun c _ => c.toNat_lt
    simpa using this
  · exact V_lt UInt8.toNat 256 l fun c _ => c.toNat_lt
theorem num_lt64 (big : Bool) (l : List UInt8) (h : l.length ≤ 8) : num big l < 18446744073709551616 := by
  have h1 := num_lt big l
  have h2 : 256 ^ l.length ≤ 256 ^ 8 := Nat.pow_le_pow_right (by omega) h
  omega
theorem num_lt7 (big : Bool) (l : List UInt8) (h : l.length ≤ 7) : num big l < 72057594037927936 := by
  have h1 := num_lt big l
  have h2 : 256 ^ l.length ≤ 256 ^ 7 := Nat.pow_le_pow_right (by omega) h
  omega
theorem num_big (l : List UInt8) (k : Nat) (h : k < l.length) : num true (l.take (k + 1)) = num true (l.take k) * 256 + l[k].toNat := by
  unfold num; simp only [if_true]; exact V_take_succ _ _ _ _ h
theorem num_little (l : List UInt8) (k : Nat) (h : k < l.length) : num false (l.take (k + 1)) = num false (l.take k) + l[k].toNat * 256 ^ k := by
  unfold num
  simp only [Bool.false_eq_true, if_false]
  rw [List.take_succ_eq_append_getElem h, List.reverse_append]
  simp only [List.reverse_cons, List.reverse_nil, List.nil_append, List.cons_append]
  rw [V_cons]
  simp only [List.length_reverse, List.length_take]
  rw [Nat.min_eq_left (by omega), Nat.add_comm]
/-- Bytes in the order of their weight, the greatest first: what a loop from the highest byte on reads. -/
theorem num_rev (big : Bool) (l : List UInt8) : num big l = num true (if big then l else l.reverse) := by
  unfold num; cases big <;> simp

/-! ### bytes of a number -/
def byteAt (v k : Nat) : UInt8 := UInt8.ofNat (v / 256 ^ k % 256)
theorem byteAt_toNat (v k : Nat) : (byteAt v k).toNat = v / 256 ^ k % 256 := by unfold byteAt; simp
def bytesTo (big : Bool) (n v i : Nat) : List UInt8 := (List.range i).map fun j => byteAt v (if big then n - 1 - j else j)
/-- The lowest n bytes of v. -/
def bytesOf (big : Bool) (n v : Nat) : List UInt8 := bytesTo big n v n
theorem bytesTo_zero (big : Bool) (n v : Nat) : bytesTo big n v 0 = [] := rfl
theorem bytesTo_succ (big : Bool) (n v i : Nat) : bytesTo big n v (i + 1) = bytesTo big n v i ++ [byteAt v (if big then n - 1 - i else i)] := by
  unfold bytesTo; rw [List.range_succ, List.map_append]; rfl
theorem bytesTo_len (big : Bool) (n v i : Nat) : (bytesTo big n v i).length = i := by unfold bytesTo; simp
theorem bytesOf_len (big : Bool) (n v : Nat) : (bytesOf big n v).length = n := bytesTo_len _ _ _ _

/-! ### digits of a number -/
/-- n digits of v, the greatest first. -/
def fix (d : Nat → UInt8) (b : Nat) : Nat → Nat → List UInt8
  | 0, _ => []
  | n + 1, v => d (v / b ^ n % b) :: fix d b n v
theorem fix_len (d : Nat → UInt8) (b n v : Nat) : (fix d b n v).length = n := by
  induction n with
  | zero => rfl
  | succ n ih => simp [fix, ih]
theorem fix_snoc (d : Nat → UInt8) (b n v : Nat) : fix d b (n + 1) v = fix d b n (v / b) ++ [d (v % b)] := by
  induction n generalizing v with
  | zero => simp [fix]
  | succ n ih =>
    rw [fix, ih v]
    show _ = (d (v / b / b ^ n % b) :: fix d b n (v / b)) ++ [d (v % b)]
    rw [Nat.div_div_eq_div_mul, Nat.pow_succ, Nat.mul_comm b]
    rfl
theorem fix_pad (d : Nat → UInt8) (b m v : Nat) (hb : 1 ≤ b) (h : v < b ^ m) (k : Nat) : fix d b (m + k) v = List.replicate k (d 0) ++ fix d b m v := by
  induction k with
  | zero => simp
  | succ k ih =>
    have hle : b ^ m ≤ b ^ (m + k) := Nat.pow_le_pow_right hb (by omega)
    have h0 : v / b ^ (m + k) = 0 := Nat.div_eq_of_lt (by omega)
    rw [← Nat.add_assoc, fix, h0, ih, List.replicate_succ]
    simp
theorem V_fix (e : UInt8 → Nat) (d : Nat → UInt8) (b : Nat) (h : ∀ x, x < b → e (d x) = x) (hb : 1 ≤ b) (n v : Nat) : V e b (fix d b n v) = v % b ^ n := by
  induction n with
  | zero => simp [fix, V, Nat.mod_one]
  | succ n ih =>
    rw [fix, V_cons, ih, fix_len, h _ (Nat.mod_lt _ (by omega)), Nat.mod_pow_succ, Nat.mul_comm]
    omega
theorem fix_mem (d : Nat → UInt8) (b : Nat) (hb : 1 ≤ b) (n v : Nat) : ∀ c ∈ fix d b n v, ∃ x, x < b ∧ c = d x := by
  induction n with
  | zero => intro c h; cases h
  | succ n ih =>
    intro c h
    rcases List.mem_cons.1 h with h | h
    · exact ⟨_, Nat.mod_lt _ (by omega), h⟩
    · exact ih c h

/-! ### the greatest number that a text may represent; what a text that is too great gives -/
def rngV (v : Nat) : Nat := if v ≤ 4611686018427387904 then v else 0
def rngE (v : Nat) : Nat := if v ≤ 4611686018427387904 then 0 else 7
end Go.My.NumMath
end

section
/-
  zlib's heads. No program, no dump.
-/
namespace ZlMath

/-- Is a head of these two bytes wrong? -/
def zbad (x y : Nat) : Bool := x % 16 != 8 || (decide (7 < x / 16) || ((x * 256 + y) % 31 != 0 || y / 32 % 2 != 0))
/-- What is told of the head in front, and the window that it says. -/
def rdC : List UInt8 → Nat
  | x :: y :: _ => if zbad x.toNat y.toNat then 2 else 0
  | _ => 5
def rdN : List UInt8 → Nat
  | x :: y :: _ => if zbad x.toNat y.toNat then 0 else 2 ^ (x.toNat / 16 + 8)
  | _ => 0
theorem good_parts {x y : Nat} (h : zbad x y = false) : x % 16 = 8 ∧ x / 16 ≤ 7 ∧ (x * 256 + y) % 31 = 0 ∧ y / 32 % 2 = 0 := by
  unfold zbad at h
  simp only [Bool.or_eq_false_iff, bne_eq_false_iff_eq, decide_eq_false_iff_not] at h
  omega
theorem win_le {x y : Nat} (h : zbad x y = false) : 0 < 2 ^ (x / 16 + 8) ∧ 2 ^ (x / 16 + 8) ≤ 32768 := by
  have h7 := (good_parts h).2.1
  have : 2 ^ (x / 16 + 8) ≤ 2 ^ 15 := Nat.pow_le_pow_right (by omega) (by omega)
  exact ⟨Nat.pow_pos (by omega), this⟩
/-- How many of the first k second bytes are right. -/
def cnt (x : Nat) : Nat → Nat
  | 0 => 0
  | k + 1 => cnt x k + if zbad x k then 0 else 1
theorem cnt_le (x k : Nat) : cnt x k ≤ k := by
  induction k with
  | zero => exact Nat.le_refl _
  | succ k ih => unfold cnt; split <;> omega
set_option maxRecDepth 100000 in
theorem cnt_all : ∀ x : Fin 256, cnt x.val 256 ≤ 8 ∧ decide (0 < cnt x.val 256) = (x.val % 16 == 8 && decide (x.val / 16 ≤ 7)) := by decide +kernel
/-- Bytes that are wrapped. -/
def wrp (packed : List UInt8) (sum : Nat) : List UInt8 := [120, 156] ++ packed ++ Go.My.NumMath.bytesOf true 4 sum
theorem wrp_len (packed : List UInt8) (sum : Nat) : (wrp packed sum).length = packed.length + 6 := by
  unfold wrp; simp [Go.My.NumMath.bytesOf_len]
end ZlMath
end

section
/-
  Lemmas for walks over bytes: no program, no dump.
-/
namespace Go.My
open Go.RowKit

/-- A slice of bytes (address, length, capacity) that reads as a list. -/
structure Bytes (w : World) (a : Option Addr) (len cap : Nat) (l : List UInt8) : Prop where
  len_eq : l.length = len
  le_cap : len ≤ cap
  cap_le : cap ≤ 9223372036854775807
  nil : a = none → len = 0 ∧ cap = 0
  at_ : len = 0 ∨ ∃ b off, a = some ⟨b, off, none⟩ ∧ b < w.heap.size ∧ ∀ i (h : i < l.length), w.cell? ⟨b, off + i, none⟩ = some (.int .u8 (l[i].toNat : Int))

theorem ret_int {k : IntKind} {a b : Int} (h : a = b) : Ending.returned (.int k a) = .returned (.int k b) := by rw [h]

theorem nil_bytes (w : World) : Bytes w none 0 0 [] := ⟨rfl, Nat.le_refl _, by omega, fun _ => ⟨rfl, rfl⟩, .inl rfl⟩

theorem Bytes.below {w w' : World} {a : Option Addr} {len cap : Nat} {l : List UInt8} (h : Bytes w a len cap l) {B : Nat} (hB : w.heap.size ≤ B) (hb : Below B w w') : Bytes w' a len cap l := by
  refine ⟨h.1, h.2, h.3, h.4, h.5.imp_right ?_⟩
  rintro ⟨b, off, ha, hs, hc⟩
  exact ⟨b, off, ha, Nat.lt_of_lt_of_le hs hb.size, fun i hi => by rw [hb.cell (p := ⟨b, off + i, none⟩) (Nat.lt_of_lt_of_le hs hB)]; exact hc i hi⟩

/-- b[:k] -/
theorem Bytes.take {w : World} {a : Option Addr} {len cap : Nat} {l : List UInt8} (h : Bytes w a len cap l) (k : Nat) (hk : k ≤ len) : Bytes w a k cap (l.take k) := by
  obtain ⟨rfl, h2, h3, h4, h5⟩ := h
  refine ⟨by simp; omega, by omega, h3, fun h => ⟨by have := (h4 h).1; omega, (h4 h).2⟩, ?_⟩
  rcases h5 with h5 | ⟨b, off, ha, hs, hc⟩
  · left; omega
  · right
    exact ⟨b, off, ha, hs, fun i hi => by
      rw [hc i (by simp at hi; omega), List.getElem_take]⟩
/-- b[k:], where there is room behind. -/
theorem Bytes.drop {w : World} {b off len cap : Nat} {l : List UInt8} (h : Bytes w (some ⟨b, off, none⟩) len cap l) (k : Nat) (hk : k ≤ len) : Bytes w (some ⟨b, off + k, none⟩) (len - k) (cap - k) (l.drop k) := by
  obtain ⟨rfl, h2, h3, h4, h5⟩ := h
  refine ⟨by simp, by omega, by omega, fun h => (by cases h), ?_⟩
  rcases h5 with h5 | ⟨b', off', ha, hs, hc⟩
  · left; omega
  · right
    cases ha
    exact ⟨b, off + k, rfl, hs, fun i hi => by
      rw [List.getElem_drop, ← hc (k + i) (by simp at hi; omega), Nat.add_assoc]⟩
theorem Bytes.some_ {w : World} {a : Option Addr} {len cap : Nat} {l : List UInt8} (h : Bytes w a len cap l) (h0 : 0 < len) : ∃ b off, a = some ⟨b, off, none⟩ := by
  rcases h.at_ with h5 | ⟨b, off, ha, hs, hc⟩
  · omega
  · exact ⟨b, off, ha⟩

theorem addr_add (b off i : Nat) : (⟨b, off, none⟩ : Addr).add i = ⟨b, off + i, none⟩ := by unfold Addr.add; split <;> simp_all

/-- What came in as a row of bytes. -/
theorem row_bytes {w : World} {a : Option Addr} {len cap : Nat} {zs : List Int}
    (h : (a = none ∧ len = 0 ∧ cap = 0 ∧ zs = []) ∨
      ∃ x, a = some x ∧ len ≤ cap ∧ cap ≤ maxLen ∧ zs.length = cap ∧ (∀ i, i < zs.length → w.cell? (x.add i) = some (.int .u8 (zs.getD i 0))) ∧ ∀ n ∈ zs, (Lit.int .u8 n).wf = true) :
    ∃ l, Bytes w a len cap l := by
  rcases h with ⟨rfl, rfl, rfl, rfl⟩ | ⟨x, rfl, h1, h2, h3, h4, h5⟩
  · exact ⟨[], nil_bytes w⟩
  · unfold maxLen at h2
    have hb : ∀ i (hi : i < zs.length), ((zs.map fun n => UInt8.ofNat n.toNat)[i]'(by simpa using hi)).toNat = zs[i] := by
      intro i hi
      have := h5 zs[i] (List.getElem_mem hi)
      have hbd : 0 ≤ zs[i] ∧ zs[i] < 256 := by
        simp [Lit.wf, IntKind.min, IntKind.max, IntKind.bits, IntKind.signed] at this
        omega
      simp
      omega
    refine ⟨(zs.map fun n => UInt8.ofNat n.toNat).take len, by simp; omega, h1, h2, (fun h => by cases h), ?_⟩
    by_cases h0 : len = 0
    · exact .inl h0
    · right
      obtain ⟨b, off, spot⟩ := x
      have hc := h4 0 (by omega)
      have hspot : spot = Option.none := by simpa [Addr.add] using World.cell?_spot hc
      subst hspot
      refine ⟨b, off, rfl, block_lt_of_cell hc, fun i hi => ?_⟩
      have hi' : i < zs.length := by simp at hi; omega
      have := h4 i hi'
      rw [addr_add] at this
      rw [this, List.getElem_take, hb i hi', List.getD_eq_getElem?_getD, List.getElem?_eq_getElem hi']
      rfl

/-! ### memory that the call itself made -/
def bv (b : UInt8) : Value := .int .u8 (b.toNat : Int)
/-- A value that is a slice of bytes of the call's own (block base or later), all of it: type E is uint8. -/
def Own (E : TypeId) (base : Nat) (w : World) (v : Value) (l : List UInt8) : Prop := w.ownsRow base E 1 v l.length (l.map bv)

theorem Own.bytes {E : TypeId} {base : Nat} {w : World} {v : Value} {l : List UInt8} (h : Own E base w v l) : ∃ a c, v = .slice a l.length c ∧ Bytes w a l.length c l := by
  rcases h.2 with ⟨rfl, h0⟩ | ⟨g, cap, cur, rfl, hg, hh, hn, hm, hs, ht⟩
  · have : l = [] := List.length_eq_zero_iff.1 h0
    subst this
    exact ⟨none, 0, rfl, nil_bytes w⟩
  · unfold maxLen at hm
    refine ⟨_, cap, rfl, rfl, hn, hm, (fun h => by cases h), .inr ⟨g, 0, rfl, ?_, fun i hi => ?_⟩⟩
    · by_cases hlt : g < w.heap.size
      · exact hlt
      · rw [Array.getElem?_eq_none (by omega)] at hh; cases hh
    · rw [cell_of_row _ _ _ _ _ _ hh, Nat.zero_add, ← Array.getElem?_toList]
      have : (cur.toList.take (l.length * 1))[i]? = (l.map bv)[i]? := by rw [ht]
      rw [List.getElem?_take, if_pos (by omega)] at this
      rw [this, List.getElem?_map, List.getElem?_eq_getElem hi]
      rfl

theorem Own.below {E : TypeId} {base : Nat} {w w' : World} {v : Value} {l : List UInt8} (h : Own E base w v l) {B : Nat} (hB : w.heap.size ≤ B) (hb : Below B w w') : Own E base w' v l := by
  refine h.kept (row := none) ⟨hb.os, hb.tape, hb.output, hb.size, fun k hk _ => hb.block k (by omega)⟩ ?_
  by_cases hv : v.ownBlock = none
  · exact .inl hv
  · exact .inr hv

/-- []byte{} -/
theorem Own.empty (E : TypeId) {base : Nat} (w : World) (hb : base ≤ w.heap.size) : Own E base (w.alloc (.cells #[] E)) (.slice (some ⟨w.heap.size, 0, none⟩) 0 0) [] :=
  World.ownsRow_lit w #[] 0 hb (by unfold maxLen; omega) rfl

theorem grown_below {base : Nat} {w0 w w' : World} {v : Value} {E : TypeId} {l : List UInt8} (hown : Own E base w v l) (h : Below base w0 w) (hg : w.grownBy w' v.ownBlock) (hb : base ≤ w.heap.size) : Below base w0 w' :=
  h.grown hg hb fun k hk => (World.ownsRow.lt hown k hk).1

/-- An operation that is wanted (its guard says yes, or it has none). -/
theorem wpList_of_wp {P : Program} {w : World} {ops : Array Oper} {rest : List Oper} {o : Oper} {a : Act} {Q : Exit → Act → World → Prop} (hw : Region.wanted o (yielded ops a.tmps) = true)
    (h : ∀ K : Act → World → Prop, (∀ a w, wpList P ops Q rest a w → K a w) → o.wp P a w K Q) : wpList P ops Q (o :: rest) a w :=
  wpList_step fun K hK => by rw [if_pos hw]; exact h K hK

/-- append(v, x...) of bytes. -/
theorem wp_append_bytes {P : Program} {w : World} {o : Oper} {a : Act} {K : Act → World → Prop} {Q : Exit → Act → World → Prop} (s x : Operand) (t : TypeId)
    (ho : o.op = .call { callee := .builtin .append, args := #[s, x], argTypes := #[t, t] }) (base : Nat) (E : TypeId) (ht : P.underlying t = some (.slice E))
    (hi : (P.info? E).map (fun i => (i.zero, i.size, i.bytes)) = some (some (.int .u8 0), 1, 1))
    (v : Value) (l : List UInt8) (hs : a.eval s = v) (hown : Own E base w v l) (ad : Option Addr) (m c : Nat) (l2 : List UInt8) (hx : a.eval x = .slice ad m c) (hb : Bytes w ad m c l2)
    (hlen : l.length + m ≤ 140737488355328) (hbase : base ≤ w.heap.size)
    (h : ∀ v' w', Own E base w' v' (l ++ l2) → w.grownBy w' v.ownBlock → K (a.put o.dst v') w') : o.wp P a w K Q := by
  obtain ⟨i, hi, hz0, hz1, hz2⟩ := info_parts hi
  cases ad with
  | none =>
    obtain ⟨rfl, rfl⟩ := hb.nil rfl
    have hl2 : l2 = [] := List.length_eq_zero_iff.1 hb.len_eq
    subst hl2
    have hrun := run_append_owned_none (P := P) (w := w) base t o.type E i 1 ht hi v l.length (l.map bv) hown
    unfold Oper.wp
    simp [execOp, ho, resolve, invoke, builtin, hs, hx, hrun, Result.andThen]
    exact h v w (by rw [List.append_nil]; exact hown) ⟨rfl, rfl, rfl, Nat.le_refl _, fun _ _ _ => rfl⟩
  | some ad =>
    refine wp_append_own w s x t ho base E i _ 1 1 ht hi hz0 hz1 hz2 rfl (by decide) v l.length (l.map bv) hs hown ad m c (l2.map bv) hx (by simp [hb.len_eq]) ?_ ?_ (by unfold maxLen; omega) (by omega) hbase ?_
    · intro j u hu
      have hj : j < l2.length := by have := (List.getElem?_eq_some_iff.1 hu).1; simpa using this
      rcases hb.at_ with h0 | ⟨b, off, hab, _, hc⟩
      · have := hb.len_eq; omega
      · simp only [Option.some.injEq] at hab
        subst hab
        rw [addr_add, hc j hj]
        rw [List.getElem?_map, List.getElem?_eq_getElem hj] at hu
        exact hu
    · intro u hu
      obtain ⟨b, _, rfl⟩ := List.mem_map.1 hu
      rfl
    · intro v' w' h1 h2 _
      refine h v' w' ?_ h2
      unfold Own
      rw [List.length_append, List.map_append, hb.len_eq]
      exact h1

theorem wpList_append_bytes {P : Program} {w : World} {ops : Array Oper} {rest : List Oper} {o : Oper} {a : Act} {Q : Exit → Act → World → Prop} (hw : Region.wanted o (yielded ops a.tmps) = true) (s x : Operand) (t : TypeId)
    (ho : o.op = .call { callee := .builtin .append, args := #[s, x], argTypes := #[t, t] }) (base : Nat) (E : TypeId) (ht : P.underlying t = some (.slice E))
    (hi : (P.info? E).map (fun i => (i.zero, i.size, i.bytes)) = some (some (.int .u8 0), 1, 1))
    (v : Value) (l : List UInt8) (hs : a.eval s = v) (hown : Own E base w v l) (ad : Option Addr) (m c : Nat) (l2 : List UInt8) (hx : a.eval x = .slice ad m c) (hb : Bytes w ad m c l2)
    (hlen : l.length + m ≤ 140737488355328) (hbase : base ≤ w.heap.size)
    (h : ∀ v' w', Own E base w' v' (l ++ l2) → w.grownBy w' v.ownBlock → wpList P ops Q rest (a.put o.dst v') w') : wpList P ops Q (o :: rest) a w :=
  wpList_of_wp hw fun _ hK => wp_append_bytes s x t ho base E ht hi v l hs hown ad m c l2 hx hb hlen hbase fun v' w' h1 h2 => hK _ _ (h v' w' h1 h2)

theorem made_bytes (k : Nat) : (madeCells (Value.cells (.int .u8 0)) (k * 1)).toList = (List.replicate k (0 : UInt8)).map bv := by
  rw [List.map_replicate, Nat.mul_one]
  exact toList_madeCells_one _ _

/-- make([]byte, k) -/
theorem wpList_make_bytes {P : Program} (w : World) {ops : Array Oper} {rest : List Oper} {o : Oper} {a : Act} {Q : Exit → Act → World → Prop}
    (hg : o.guard = none) (l c : Operand) (t : TypeId) (hop : o.op = Op.makeSlice t l c) (base : Nat) (E : TypeId) (ht : P.underlying t = some (.slice E))
    (hi : (P.info? E).map (fun i => (i.zero, i.size, i.bytes)) = some (some (.int .u8 0), 1, 1)) (kl kc : IntKind) (k : Nat) (hl : a.eval l = .int kl (k : Int)) (hc : a.eval c = .int kc (k : Int))
    (hk : k ≤ 281474976710656) (hb : base ≤ w.heap.size)
    (hK : ∀ w', Own E base w' (.slice (some ⟨w.heap.size, 0, none⟩) k k) (List.replicate k 0) → w.grownBy w' none → wpList P ops Q rest (a.put o.dst (.slice (some ⟨w.heap.size, 0, none⟩) k k)) w') : wpList P ops Q (o :: rest) a w := by
  obtain ⟨i, hi, hz0, hz1, hz2⟩ := info_parts hi
  refine wpList_make_full w hg l c t hop base E i _ 1 ht hi hz0 hz1 kl kc _ _ k hl hc rfl rfl (by rw [hz2]; omega) (by unfold maxLen; omega) hb fun w' h1 h2 => hK w' ?_ h2
  unfold Own
  rw [made_bytes] at h1
  rw [List.length_replicate]
  exact h1

/-- make([]byte, 0, k) -/
theorem wpList_make_cap {P : Program} (w : World) {ops : Array Oper} {rest : List Oper} {o : Oper} {a : Act} {Q : Exit → Act → World → Prop}
    (hg : o.guard = none) (l c : Operand) (t : TypeId) (hop : o.op = Op.makeSlice t l c) (base : Nat) (E : TypeId) (ht : P.underlying t = some (.slice E))
    (hi : (P.info? E).map (fun i => (i.zero, i.size, i.bytes)) = some (some (.int .u8 0), 1, 1)) (kl kc : IntKind) (C : Int) (k : Nat) (hl : a.eval l = .int kl 0) (hc : a.eval c = .int kc C) (hC : C = (k : Int))
    (hk : k ≤ 281474976710656) (hb : base ≤ w.heap.size)
    (hK : ∀ w', Own E base w' (.slice (some ⟨w.heap.size, 0, none⟩) 0 k) [] → w.grownBy w' none → wpList P ops Q rest (a.put o.dst (.slice (some ⟨w.heap.size, 0, none⟩) 0 k)) w') : wpList P ops Q (o :: rest) a w := by
  obtain ⟨i, hi, hz0, hz1, hz2⟩ := info_parts hi
  exact wpList_make_own w hg l c t hop base E i _ 1 ht hi hz0 hz1 kl kc C k hl hc hC (by rw [hz2]; omega) (by unfold maxLen; omega) hb fun w' h1 h2 => hK w' h1 h2

/-- []byte{c}: the block of a literal of one byte. -/
theorem one_bytes (E : TypeId) (w : World) (c : UInt8) : Bytes (w.alloc (.cells #[.int .u8 (c.toNat : Int)] E)) (some ⟨w.heap.size, 0, none⟩) 1 1 [c] := by
  refine ⟨rfl, by omega, by omega, (fun h => by cases h), .inr ⟨w.heap.size, 0, rfl, by simp, ?_⟩⟩
  intro i hi
  obtain rfl : i = 0 := by simp at hi; omega
  rw [cell_of_row _ _ _ _ _ _ (heap_alloc_new w _)]
  rfl
theorem grown_none_below {base : Nat} {w0 w w' : World} (h : Below base w0 w) (hg : w.grownBy w' none) (hb : base ≤ w.heap.size) : Below base w0 w' :=
  h.grown hg hb fun k hk => by cases hk

/-- A call that hands back bytes of its own. -/
def OwnRet (E : TypeId) (w : World) (l : List UInt8) (e : Ending) (w' : World) : Prop := ∃ v, e = .returned v ∧ Own E w.heap.size w' v l ∧ Below w.heap.size w w'

/-- string(b) -/
theorem run_string_bytes {P : Program} (w : World) (src dst E : TypeId) {a : Option Addr} {len cap : Nat} {l : List UInt8} (hs : P.underlying src = some (.slice E)) (he : P.underlying E = some (.int .u8)) (hd : P.underlying dst = some .string)
    (hb : Bytes w a len cap l) : (convert src dst (.slice a len cap)).run P w = .ok (.string ⟨l.toArray⟩) w := by
  obtain rfl := hb.len_eq
  cases a with
  | none =>
    obtain ⟨h0, rfl⟩ := hb.nil rfl
    obtain rfl : l = [] := List.length_eq_zero_iff.1 h0
    exact Go.Lib.run_convert_nil_bytes w src dst E 0 hs he hd
  | some a =>
    refine run_convert_bytes_back w src dst E a cap l hs he hd fun j hj => ?_
    rcases hb.at_ with h0 | ⟨b, off, hab, _, hc⟩
    · omega
    · simp only [Option.some.injEq] at hab
      subst hab
      rw [addr_add]; exact hc j hj

/-! ### numbers -/
/-- n & (2^j - 1) of any int. -/
theorem i64_and_mask (n : Int) (j : Nat) (hj : j ≤ 62) (m M : Int) (hm : m = (2 ^ j - 1 : Nat)) (hM : M = (2 ^ j : Nat)) : bits .and .i64 n m = n % M := by
  subst hm hM
  have h62 : 2 ^ j ≤ 2 ^ 62 := Nat.pow_le_pow_right (by decide) hj
  have hp : 0 < 2 ^ j := Nat.two_pow_pos j
  show IntKind.i64.wrap ((BitVec.ofInt 64 n &&& BitVec.ofInt 64 ((2 ^ j - 1 : Nat) : Int)).toNat : Int) = _
  rw [BitVec.toNat_and, ofInt_u64 _ (by omega), BitVec.toNat_ofInt, Nat.and_two_pow_sub_one_eq_mod]
  have e : (((n % ((2 ^ 64 : Nat) : Int)).toNat % 2 ^ j : Nat) : Int) = n % ((2 ^ j : Nat) : Int) := by
    rw [Int.natCast_emod, Int.toNat_of_nonneg (by omega)]
    exact Int.emod_emod_of_dvd n (by
      have : (2 ^ j : Nat) ∣ 2 ^ 64 := Nat.pow_dvd_pow 2 (by omega)
      exact_mod_cast this)
  rw [e]
  have h1 := Int.emod_nonneg n (show ((2 ^ j : Nat) : Int) ≠ 0 by omega)
  have h2 := Int.emod_lt_of_pos n (show (0 : Int) < ((2 ^ j : Nat) : Int) by omega)
  rw [IntKind.wrap_i64]
  omega
theorem wf_nat8 {a : Int} (h : (Lit.int .u8 a).wf = true) : ∃ c : UInt8, a = (c.toNat : Int) := by
  simp [Lit.wf, IntKind.min, IntKind.max, IntKind.bits, IntKind.signed] at h
  exact ⟨UInt8.ofNat a.toNat, by rw [UInt8.toNat_ofNat']; omega⟩
theorem wf_nat32 {a : Int} (h : (Lit.int .u32 a).wf = true) : ∃ c : Nat, a = (c : Int) ∧ c < 4294967296 := by
  simp [Lit.wf, IntKind.min, IntKind.max, IntKind.bits, IntKind.signed] at h
  exact ⟨a.toNat, by omega, by omega⟩
theorem wf_nat64 {a : Int} (h : (Lit.int .u64 a).wf = true) : ∃ c : Nat, a = (c : Int) ∧ c < 18446744073709551616 := by
  simp [Lit.wf, IntKind.min, IntKind.max, IntKind.bits, IntKind.signed] at h
  exact ⟨a.toNat, by omega, by omega⟩
theorem wf_int {a : Int} (h : (Lit.int .i64 a).wf = true) : -9223372036854775808 ≤ a ∧ a ≤ 9223372036854775807 := by
  simp [Lit.wf, IntKind.min, IntKind.max, IntKind.bits, IntKind.signed] at h
  omega
/-- (at % n + n) % n is a place below n. -/
theorem place_in (at_ : Int) (n : Nat) (hn : 0 < n) (hn2 : n ≤ 1000000) (_h1 : -9223372036854775808 ≤ at_) (_h2 : at_ ≤ 9223372036854775807) : ∃ f : Nat, f < n ∧ (wrap64 (at_.tmod (n : Int) + n)).tmod n = (f : Int) ∧ (at_.tmod (n : Int) + n).tmod n = (f : Int) := by
  have e1 := Int.tmod_lt_of_pos at_ (show (0 : Int) < n by omega)
  have e2 : -(n : Int) < at_.tmod n := by
    have h := Int.tmod_lt_of_pos (-at_) (show (0 : Int) < n by omega)
    rw [Int.neg_tmod] at h
    omega
  rw [IntWalk.wrap64_in _ ⟨by omega, by omega⟩, Int.tmod_eq_emod_of_nonneg (by omega)]
  have e3 := Int.emod_nonneg (at_.tmod n + n) (show (n : Int) ≠ 0 by omega)
  have e4 := Int.emod_lt_of_pos (at_.tmod n + n) (show (0 : Int) < n by omega)
  exact ⟨((at_.tmod n + n) % n).toNat, by omega, by omega, by omega⟩

/-! ### copies by append -/
theorem Own.nil (E : TypeId) (base : Nat) (w : World) : Own E base w (.slice none 0 0) [] := World.ownsRow_nil _ _ _ _
theorem Own.some_ {E : TypeId} {base : Nat} {w : World} {v : Value} {l : List UInt8} (h : Own E base w v l) (hl : 0 < l.length) : ∃ g c, v = .slice (some ⟨g, 0, none⟩) l.length c ∧ base ≤ g ∧ l.length ≤ c ∧ c ≤ 9223372036854775807 := by
  rcases h.2 with ⟨_, h0⟩ | ⟨g, cap, cur, rfl, hg, _, hn, hm, _⟩
  · omega
  · exact ⟨g, cap, rfl, hg, hn, hm⟩
/-- append([]byte{}, b...): what it is, that it is of the call's own, and that nothing ahead is touched. -/
theorem copied {E : TypeId} {w w1 : World} {v' : Value} {l : List UInt8} (hown : Own E w.heap.size w1 v' ([] ++ l)) (hg : (w.alloc (.cells #[] E)).grownBy w1 (Value.ownBlock (.slice (some ⟨w.heap.size, 0, none⟩) 0 0))) :
    ∃ a' c', v' = .slice a' l.length c' ∧ Bytes w1 a' l.length c' l ∧ Below w.heap.size w w1 := by
  rw [List.nil_append] at hown
  obtain ⟨a', c', rfl, hb⟩ := hown.bytes
  exact ⟨a', c', rfl, hb, grown_below (Own.empty E w (Nat.le_refl _)) ((Below.refl _ _).alloc (Nat.le_refl _) _) hg (by simp)⟩
theorem copied_below {E : TypeId} {w w1 : World} {v' : Value} {l : List UInt8} (hown : Own E w.heap.size w1 v' ([] ++ l)) (hg : (w.alloc (.cells #[] E)).grownBy w1 (Value.ownBlock (.slice (some ⟨w.heap.size, 0, none⟩) 0 0))) :
    Below w.heap.size w w1 := let ⟨_, _, _, _, h⟩ := copied hown hg; h
/-- append(append([]byte{}, a...), b...): behind the second append. -/
theorem copied2 {E : TypeId} {w w2 w3 : World} {v1 v2 : Value} {l1 l2 : List UInt8} (hown1 : Own E w.heap.size w2 v1 ([] ++ l1)) (hg1 : (w.alloc (.cells #[] E)).grownBy w2 (Value.ownBlock (.slice (some ⟨w.heap.size, 0, none⟩) 0 0)))
    (hown : Own E w.heap.size w3 v2 (l1 ++ l2)) (hg : w2.grownBy w3 v1.ownBlock) :
    ∃ a' c', v2 = .slice a' (l1.length + l2.length) c' ∧ Bytes w3 a' (l1.length + l2.length) c' (l1 ++ l2) ∧ Below w.heap.size w w3 := by
  have hw := copied_below hown1 hg1
  obtain ⟨a', c', rfl, hb⟩ := hown.bytes
  rw [List.length_append] at hb ⊢
  exact ⟨a', c', rfl, hb, grown_below hown1 hw hg hw.size⟩
/-- A text, so many times. -/
def reps (k : Nat) (l : List UInt8) : List UInt8 := (List.replicate k l).flatten
theorem reps_zero (l : List UInt8) : reps 0 l = [] := rfl
theorem reps_succ (k : Nat) (l : List UInt8) : reps (k + 1) l = reps k l ++ l := by
  unfold reps; rw [List.replicate_succ', List.flatten_append]; simp
theorem reps_len (k : Nat) (l : List UInt8) : (reps k l).length = k * l.length := by
  unfold reps; simp
end Go.My
end

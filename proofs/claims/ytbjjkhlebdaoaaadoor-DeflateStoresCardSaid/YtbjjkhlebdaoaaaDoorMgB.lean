import Derived.Test.YtbjjkhlebdaoaaaDoorMgA
import Derived.WalkKit

section
/-
  Canonical prefix codes: Kraft's sum, the first code of each length, codes; no code is the beginning of another one. Plain lists of numbers: no program, no dump.
-/
namespace CanMath
open BitMath

/-- So many rows of 15 bits begin with a code of n bits. -/
def share (n : Nat) : Nat := if n = 0 then 0 else 2 ^ (15 - n)
/-- Kraft's sum. -/
def kr (ls : List Nat) : Nat := (ls.map share).sum
/-- The rows that begin with a code shorter than n. -/
def low (ls : List Nat) (n : Nat) : Nat := (ls.map fun x => if x < n then share x else 0).sum
/-- The first code of n bits. -/
def first (ls : List Nat) : Nat → Nat
  | 0 => 0
  | 1 => 0
  | n + 2 => 2 * (first ls (n + 1) + ls.count (n + 1))
/-- The code of the symbol at place i, of n bits. -/
def codeN (ls : List Nat) (n i : Nat) : Nat := first ls n + (ls.take i).count n
theorem kr_cons (x : Nat) (t : List Nat) : kr (x :: t) = share x + kr t := by simp [kr]
theorem kr_append (a b : List Nat) : kr (a ++ b) = kr a + kr b := by simp [kr]
theorem share_le (n : Nat) : share n ≤ 16384 := by
  unfold share
  split
  · omega
  · rw [show 16384 = 2 ^ 14 from rfl]; exact Nat.pow_le_pow_right (by omega) (by omega)
theorem share_pos {n : Nat} (h : 0 < n) : 0 < share n := by
  unfold share; rw [if_neg (by omega)]; exact Nat.two_pow_pos _
theorem kr_le (ls : List Nat) : kr ls ≤ 16384 * ls.length := by
  induction ls with
  | nil => simp [kr]
  | cons x t ih => rw [kr_cons, List.length_cons]; have := share_le x; omega
theorem count_take_succ (ls : List Nat) (i n : Nat) (h : i < ls.length) : (ls.take (i + 1)).count n = (ls.take i).count n + (if ls[i] = n then 1 else 0) := by
  rw [List.take_succ_eq_append_getElem h, List.count_append, List.count_singleton]
  simp
theorem count_take_le (ls : List Nat) (i n : Nat) : (ls.take i).count n ≤ ls.count n := (List.take_sublist i ls).count_le n

theorem low_zero (ls : List Nat) : low ls 0 = 0 := by
  unfold low; induction ls <;> simp_all
theorem low_one (ls : List Nat) : low ls 1 = 0 := by
  unfold low
  induction ls with
  | nil => rfl
  | cons x t ih =>
    rw [List.map_cons, List.sum_cons, ih]
    split
    · rw [show x = 0 from by omega]; rfl
    · rfl
theorem low_succ (ls : List Nat) (n : Nat) : low ls (n + 1) = low ls n + ls.count n * share n := by
  unfold low
  induction ls with
  | nil => simp
  | cons x t ih =>
    rw [List.map_cons, List.sum_cons, ih, List.map_cons, List.sum_cons, List.count_cons, Nat.add_mul]
    by_cases h1 : x < n
    · rw [if_pos (by omega), if_pos h1, if_neg (by simp; omega)]; omega
    · by_cases h2 : x = n
      · subst h2; simp; omega
      · rw [if_neg (by omega), if_neg h1, if_neg (by simp; omega)]; omega
theorem low_mono (ls : List Nat) {a b : Nat} (h : a ≤ b) : low ls a ≤ low ls b := by
  induction h with
  | refl => exact Nat.le_refl _
  | step _ ih => rw [Nat.succ_eq_add_one, low_succ]; omega
theorem low_all (ls : List Nat) (h : ∀ x ∈ ls, x ≤ 15) : low ls 16 = kr ls := by
  unfold low kr
  induction ls with
  | nil => rfl
  | cons x t ih =>
    rw [List.map_cons, List.sum_cons, List.map_cons, List.sum_cons, ih (fun y hy => h y (List.mem_cons_of_mem _ hy)), if_pos (by have := h x (List.mem_cons_self ..); omega)]

theorem first_low (ls : List Nat) (n : Nat) (h1 : 1 ≤ n) (h2 : n ≤ 15) : first ls n * 2 ^ (15 - n) = low ls n := by
  induction n with
  | zero => omega
  | succ n ih =>
    cases n with
    | zero => rw [low_one]; simp [first]
    | succ n =>
      rw [first, low_succ, ← ih (by omega) (by omega)]
      have e : share (n + 1) = 2 ^ (15 - (n + 1)) := by unfold share; rw [if_neg (by omega)]
      rw [e, show 15 - (n + 1) = (15 - (n + 1 + 1)) + 1 from by omega, Nat.pow_succ, ← Nat.add_mul, Nat.mul_comm 2, Nat.mul_assoc, Nat.mul_comm 2]

/-- Where the rows begin that begin with a code. -/
def start (ls : List Nat) (n i : Nat) : Nat := codeN ls n i * 2 ^ (15 - n)
theorem start_eq (ls : List Nat) (n i : Nat) (h1 : 1 ≤ n) (h2 : n ≤ 15) : start ls n i = low ls n + (ls.take i).count n * share n := by
  unfold start codeN
  rw [Nat.add_mul, first_low ls n h1 h2]
  have e : share n = 2 ^ (15 - n) := by unfold share; rw [if_neg (by omega)]
  rw [e]
theorem start_end (ls : List Nat) (n i : Nat) (hi : i < ls.length) (hn : ls[i] = n) (h1 : 1 ≤ n) (h2 : n ≤ 15) : start ls n i + share n ≤ low ls (n + 1) := by
  rw [start_eq ls n i h1 h2, low_succ]
  have h := count_take_le ls (i + 1) n
  rw [count_take_succ ls i n hi, if_pos hn] at h
  have := Nat.mul_le_mul_right (share n) h
  rw [Nat.add_mul, Nat.one_mul] at this
  omega
theorem start_le (ls : List Nat) (n i : Nat) (h1 : 1 ≤ n) (h2 : n ≤ 15) : low ls n ≤ start ls n i := by
  rw [start_eq ls n i h1 h2]; omega

/-- The codes' rows lie one behind the other, by length and place. -/
theorem apart_len (ls : List Nat) (i k : Nat) {n : Nat} (hi : i < ls.length) (h1 : 1 ≤ ls[i]) (hk15 : n ≤ 15) (hlt : ls[i] < n) : start ls ls[i] i + share ls[i] ≤ start ls n k :=
  Nat.le_trans (start_end ls _ i hi rfl h1 (by omega)) (Nat.le_trans (low_mono ls (by omega)) (start_le ls n k (by omega) hk15))
theorem count_lt (ls : List Nat) (i k n : Nat) (hi : i < ls.length) (hn : ls[i] = n) (hik : i < k) : (ls.take i).count n + 1 ≤ (ls.take k).count n := by
  have h := count_take_succ ls i n hi
  rw [if_pos hn] at h
  rw [← h]
  have e : ls.take (i + 1) = (ls.take k).take (i + 1) := by rw [List.take_take, Nat.min_eq_left (by omega)]
  rw [e]
  exact count_take_le _ _ _
theorem apart_place (ls : List Nat) (i k : Nat) (hi : i < ls.length) (h1 : 1 ≤ ls[i]) (h2 : ls[i] ≤ 15) (hik : i < k) : start ls ls[i] i + share ls[i] ≤ start ls ls[i] k := by
  rw [start_eq ls _ i h1 h2, start_eq ls _ k h1 h2]
  have := Nat.mul_le_mul_right (share ls[i]) (count_lt ls i k ls[i] hi rfl hik)
  rw [Nat.add_mul, Nat.one_mul] at this
  omega
theorem start_room (ls : List Nat) (hall : ∀ x ∈ ls, x ≤ 15) (i : Nat) (hi : i < ls.length) (h1 : 1 ≤ ls[i]) : start ls ls[i] i + share ls[i] ≤ kr ls := by
  rw [← low_all ls hall]
  have h2 := hall ls[i] (List.getElem_mem hi)
  exact Nat.le_trans (start_end ls _ i hi rfl h1 h2) (low_mono ls (by omega))
theorem share_eq {n : Nat} (h : 1 ≤ n) : share n = 2 ^ (15 - n) := by unfold share; rw [if_neg (by omega)]
/-- A code has no more bits than its length says. -/
theorem codeN_lt (ls : List Nat) (hall : ∀ x ∈ ls, x ≤ 15) (hk : kr ls ≤ 32768) (i : Nat) (hi : i < ls.length) (h1 : 1 ≤ ls[i]) : codeN ls ls[i] i < 2 ^ ls[i] := by
  have h := start_room ls hall i hi h1
  have h2 := hall ls[i] (List.getElem_mem hi)
  have hp := share_pos (n := ls[i]) (by omega)
  rw [share_eq h1] at h hp
  unfold start at h
  have e : 32768 = 2 ^ ls[i] * 2 ^ (15 - ls[i]) := by rw [← Nat.pow_add, show ls[i] + (15 - ls[i]) = 15 from by omega]
  generalize codeN ls ls[i] i = c at *
  by_cases hc : c < 2 ^ ls[i]
  · exact hc
  · have := Nat.mul_le_mul_right (2 ^ (15 - ls[i])) (show 2 ^ ls[i] ≤ c by omega)
    omega

/-- A row of 15 bits begins with the code. -/
def Fits (ls : List Nat) (r i : Nat) : Prop := ∃ h : i < ls.length, 1 ≤ ls[i] ∧ r / 2 ^ (15 - ls[i]) = codeN ls ls[i] i
theorem div_iff (r c m : Nat) : r / 2 ^ m = c ↔ c * 2 ^ m ≤ r ∧ r < c * 2 ^ m + 2 ^ m := by
  have hp : 0 < 2 ^ m := Nat.two_pow_pos m
  constructor
  · rintro rfl
    exact ⟨Nat.div_mul_le_self _ _, Nat.lt_div_mul_add hp⟩
  · rintro ⟨h1, h2⟩
    exact Nat.div_eq_of_lt_le h1 (by rw [Nat.succ_mul]; exact h2)
theorem fits_iff (ls : List Nat) (r i : Nat) (h : i < ls.length) (h1 : 1 ≤ ls[i]) : (r / 2 ^ (15 - ls[i]) = codeN ls ls[i] i) ↔ start ls ls[i] i ≤ r ∧ r < start ls ls[i] i + share ls[i] := by
  rw [div_iff, share_eq h1]; rfl
/-- Two codes: one lies behind the other. -/
theorem sides (ls : List Nat) (hall : ∀ x ∈ ls, x ≤ 15) (i k : Nat) (hi : i < ls.length) (hk : k < ls.length) (h1 : 1 ≤ ls[i]) (k1 : 1 ≤ ls[k]) (hne : i ≠ k) :
    start ls ls[i] i + share ls[i] ≤ start ls ls[k] k ∨ start ls ls[k] k + share ls[k] ≤ start ls ls[i] i := by
  have h15 := hall ls[i] (List.getElem_mem hi)
  have k15 := hall ls[k] (List.getElem_mem hk)
  by_cases hlt : ls[i] < ls[k]
  · exact .inl (apart_len ls i k hi h1 k15 hlt)
  · by_cases hgt : ls[k] < ls[i]
    · exact .inr (apart_len ls k i hk k1 h15 hgt)
    · have e : ls[i] = ls[k] := by omega
      by_cases hik : i < k
      · have := apart_place ls i k hi h1 h15 hik
        left; rw [← e]; exact this
      · have := apart_place ls k i hk k1 k15 (by omega)
        right; rw [e]; exact this
theorem fits_one (ls : List Nat) (hall : ∀ x ∈ ls, x ≤ 15) (r i k : Nat) (h : Fits ls r i) (hk : Fits ls r k) : i = k := by
  obtain ⟨hi, h1, h⟩ := h
  obtain ⟨hk', k1, hk⟩ := hk
  rw [fits_iff ls r i hi h1] at h
  rw [fits_iff ls r k hk' k1] at hk
  by_cases hne : i = k
  · exact hne
  · rcases sides ls hall i k hi hk' h1 k1 hne with h' | h' <;> omega
/-- The lengths that are not 0. -/
def some_ (ls : List Nat) : List Nat := ls.filter fun x => decide (0 < x)
/-- A code as bits, the highest first. -/
def bitsAt (ls : List Nat) (i : Nat) : List Bool := if h : i < ls.length then (lows ls[i] (codeN ls ls[i] i)).reverse else []
theorem bitsAt_eq (ls : List Nat) (i : Nat) (h : i < ls.length) : bitsAt ls i = (lows ls[i] (codeN ls ls[i] i)).reverse := by unfold bitsAt; rw [dif_pos h]
theorem bitsAt_len (ls : List Nat) (i : Nat) (h : i < ls.length) : (bitsAt ls i).length = ls[i] := by rw [bitsAt_eq ls i h, List.length_reverse, lows_len]
end CanMath
end

section
/-
  Decoding tables: what a table of symbols holds behind each symbol that is placed, and what is found in it. Plain numbers: no program, no dump.
-/
namespace TabMath
open BitMath CanMath

/-- A code as it is read: its first bit the lowest. -/
def rc (n c : Nat) : Nat := num (lows n c).reverse
theorem rc_lt (n c : Nat) : rc n c < 2 ^ n := by
  have := num_lt (lows n c).reverse
  rwa [List.length_reverse, lows_len] at this
theorem lows_rc (n c : Nat) : lows n (rc n c) = (lows n c).reverse := lows_turn n c
theorem rc_rc (n c : Nat) : rc n (rc n c) = c % 2 ^ n := by
  unfold rc; rw [lows_turn, List.reverse_reverse, num_lows]
theorem rc_mod (n c : Nat) : rc n (c % 2 ^ n) = rc n c := by unfold rc; rw [lows_mod]
theorem rc_add (a b v : Nat) : rc (a + b) v = rc b (v / 2 ^ a) + 2 ^ b * rc a v := by
  unfold rc
  rw [lows_add, List.reverse_append, num_append, List.length_reverse, lows_len]
theorem rc_div (a b v : Nat) : rc (a + b) v / 2 ^ b = rc a v := by
  rw [rc_add, Nat.add_mul_div_left _ _ (Nat.two_pow_pos b), Nat.div_eq_of_lt (rc_lt b _), Nat.zero_add]
/-- The length of a symbol's code, 0 if it has none. -/
def ln (ls : List Nat) (i : Nat) : Nat := ls.getD i 0
theorem ln_eq (ls : List Nat) (i : Nat) (h : i < ls.length) : ln ls i = ls[i] := by
  unfold ln; rw [List.getD_eq_getElem?_getD, List.getElem?_eq_getElem h]; rfl
theorem ln_out (ls : List Nat) (i : Nat) (h : ls.length ≤ i) : ln ls i = 0 := by
  unfold ln; rw [List.getD_eq_getElem?_getD, List.getElem?_eq_none h]; rfl
theorem ln_lt {ls : List Nat} {i : Nat} (h : 1 ≤ ln ls i) : i < ls.length := by
  by_cases hi : i < ls.length
  · exact hi
  · rw [ln_out ls i (by omega)] at h; omega
theorem ln_le {ls : List Nat} (hall : ∀ x ∈ ls, x ≤ 15) (i : Nat) : ln ls i ≤ 15 := by
  by_cases hi : i < ls.length
  · rw [ln_eq ls i hi]; exact hall _ (List.getElem_mem hi)
  · rw [ln_out ls i (by omega)]; omega
/-- A symbol's code as it is read. -/
def wd (ls : List Nat) (i : Nat) : Nat := rc (ln ls i) (codeN ls (ln ls i) i)
theorem wd_lt (ls : List Nat) (i : Nat) : wd ls i < 2 ^ ln ls i := rc_lt _ _
theorem bitsAt_wd (ls : List Nat) (i : Nat) (h : i < ls.length) : bitsAt ls i = lows (ln ls i) (wd ls i) := by
  unfold wd; rw [bitsAt_eq ls i h, lows_rc, ln_eq ls i h]

/-- What is read begins with the symbol's code. -/
def Has (ls : List Nat) (v i : Nat) : Prop := 1 ≤ ln ls i ∧ v % 2 ^ ln ls i = wd ls i
instance (ls : List Nat) (v i : Nat) : Decidable (Has ls v i) := inferInstanceAs (Decidable (_ ∧ _))

section
variable {ls : List Nat} (hall : ∀ x ∈ ls, x ≤ 15) (hk : kr ls ≤ 32768)
include hall hk
theorem code_small (i : Nat) (h1 : 1 ≤ ln ls i) : codeN ls (ln ls i) i < 2 ^ ln ls i := by
  have hi := ln_lt h1
  rw [ln_eq ls i hi] at h1 ⊢
  exact codeN_lt ls hall hk i hi h1
theorem rc_wd (i : Nat) (h1 : 1 ≤ ln ls i) : rc (ln ls i) (wd ls i) = codeN ls (ln ls i) i := by
  unfold wd; rw [rc_rc, Nat.mod_eq_of_lt (code_small hall hk i h1)]
theorem has_fits (v i : Nat) : Has ls v i ↔ Fits ls (rc 15 v) i := by
  constructor
  · rintro ⟨h1, h2⟩
    have hi := ln_lt h1
    have h15 := ln_le hall i
    refine ⟨hi, by rw [← ln_eq ls i hi]; exact h1, ?_⟩
    rw [← ln_eq ls i hi]
    have e := rc_div (ln ls i) (15 - ln ls i) v
    rw [show ln ls i + (15 - ln ls i) = 15 from by omega] at e
    rw [e, ← rc_mod, h2, rc_wd hall hk i h1]
  · rintro ⟨hi, h1, h2⟩
    rw [← ln_eq ls i hi] at h1 h2
    have h15 := ln_le hall i
    refine ⟨h1, ?_⟩
    have e := rc_div (ln ls i) (15 - ln ls i) v
    rw [show ln ls i + (15 - ln ls i) = 15 from by omega] at e
    rw [e] at h2
    unfold wd
    rw [← h2, rc_rc]
theorem has_one {v i k : Nat} (h : Has ls v i) (h' : Has ls v k) : i = k :=
  fits_one ls hall (rc 15 v) i k ((has_fits hall hk v i).1 h) ((has_fits hall hk v k).1 h')
end

/-- An element: a value, a length, how many bits more. -/
structure El where
  v : Nat
  l : Nat
  m : Nat
deriving DecidableEq
def El.z : El := ⟨0, 0, 0⟩

/-- How many bits more the longest code needs that begins with these first bits. -/
def mo (ls : List Nat) (f : Nat) : Nat → Nat → Nat
  | 0, _ => 0
  | k + 1, p => if f < ln ls k ∧ wd ls k % 2 ^ f = p then max (mo ls f k p) (ln ls k - f) else mo ls f k p
def M (ls : List Nat) (f p : Nat) : Nat := mo ls f ls.length p
/-- Where the secondary table of p begins. -/
def S (ls : List Nat) (f : Nat) : Nat → Nat
  | 0 => 2 ^ f
  | p + 1 => S ls f p + (if 0 < M ls f p then 2 ^ M ls f p else 0)

/-- What stands behind link. -/
def T0 (ls : List Nat) (f j : Nat) : El := if j < 2 ^ f then ⟨if 0 < M ls f j then S ls f j else 0, 0, M ls f j⟩ else El.z
/-- A symbol is placed. -/
def put (ls : List Nat) (f : Nat) (T : Nat → El) (i : Nat) : Nat → El :=
  if ln ls i = 0 then T
  else if ln ls i ≤ f then fun j => if j < 2 ^ f ∧ j % 2 ^ ln ls i = wd ls i then ⟨i, ln ls i, 0⟩ else T j
  else fun j => if (T (wd ls i % 2 ^ f)).v ≤ j ∧ j < (T (wd ls i % 2 ^ f)).v + 2 ^ (T (wd ls i % 2 ^ f)).m ∧ (j - (T (wd ls i % 2 ^ f)).v) % 2 ^ (ln ls i - f) = wd ls i / 2 ^ f then ⟨i, ln ls i, 0⟩ else T j
def TT (ls : List Nat) (f : Nat) : Nat → Nat → El
  | 0 => T0 ls f
  | k + 1 => put ls f (TT ls f k) k

section
variable {ls : List Nat} (hall : ∀ x ∈ ls, x ≤ 15) (hk : kr ls ≤ 32768) (f : Nat)
include hall hk
end

/-- The symbol whose code stands in front. -/
def who (ls : List Nat) (v : Nat) : El := match (List.range ls.length).find? (fun i => decide (Has ls v i)) with | some i => ⟨i, ln ls i, 0⟩ | none => El.z

section
variable {ls : List Nat} (hall : ∀ x ∈ ls, x ≤ 15) (hk : kr ls ≤ 32768) (f : Nat)
include hall hk
theorem who_some {v i : Nat} (h : Has ls v i) : who ls v = ⟨i, ln ls i, 0⟩ := by
  unfold who
  split
  · next j hj =>
    have h1 := List.find?_some hj
    rw [has_one hall hk (of_decide_eq_true h1) h]
  · next hn =>
    have := List.find?_eq_none.1 hn i (List.mem_range.2 (ln_lt h.1))
    simp [h] at this
end
end TabMath
end

section
/-
  A sliding window as a ring: what is in the ring, what a copy appends. Plain mathematics.
-/
namespace WinMath

/-- The ring of a window of S bytes behind all these; the place of the next one. -/
structure Ring (S : Nat) (all ring : List UInt8) (next : Nat) : Prop where
  len : ring.length = min all.length S
  next_ : next = all.length % S
  at_ : ∀ p, p < all.length → all.length ≤ p + S → ring[p % S]? = all[p]?

def after (S n : Nat) : Nat := if n + 1 = S then 0 else n + 1
theorem after_mod (S m : Nat) (hS : 0 < S) : after S (m % S) = (m + 1) % S := by
  unfold after
  have h := Nat.mod_lt m hS
  have e := Nat.div_add_mod m S
  by_cases h1 : m % S + 1 = S
  · rw [if_pos h1]
    have : m + 1 = S * (m / S + 1) := by rw [Nat.mul_add]; omega
    rw [this, Nat.mul_mod_right]
  · rw [if_neg h1]
    have : m + 1 = S * (m / S) + (m % S + 1) := by omega
    rw [this, Nat.mul_add_mod, Nat.mod_eq_of_lt (by omega : m % S + 1 < S)]

theorem Ring.nil (S : Nat) : Ring S [] [] 0 := ⟨by simp, by simp, fun p h => by simp at h⟩

section
variable {S : Nat} {all ring : List UInt8} {next : Nat}
theorem Ring.lt (h : Ring S all ring next) (hS : 0 < S) : next < S := by rw [h.next_]; exact Nat.mod_lt _ hS
theorem Ring.full (h : Ring S all ring next) : ring.length < S ↔ all.length < S := by rw [h.len]; omega
theorem Ring.le (h : Ring S all ring next) : ring.length ≤ S := by rw [h.len]; omega

theorem Ring.push (h : Ring S all ring next) (hS : 0 < S) (c : UInt8) (hl : ring.length < S) : Ring S (all ++ [c]) (ring ++ [c]) (after S next) := by
  have ha := h.full.1 hl
  have hr : ring.length = all.length := by rw [h.len]; omega
  refine ⟨by simp; omega, by rw [h.next_, after_mod _ _ hS]; simp, fun p hp _ => ?_⟩
  simp at hp
  rw [Nat.mod_eq_of_lt (by omega)]
  by_cases hpl : p < all.length
  · rw [List.getElem?_append_left (by omega), List.getElem?_append_left hpl, ← h.at_ p hpl (by omega), Nat.mod_eq_of_lt (by omega)]
  · obtain rfl : p = all.length := by omega
    rw [List.getElem?_append_right (by omega), List.getElem?_append_right (by omega), hr]
theorem Ring.put (h : Ring S all ring next) (hS : 0 < S) (c : UInt8) (hl : ¬ ring.length < S) : Ring S (all ++ [c]) (ring.set next c) (after S next) := by
  have ha : S ≤ all.length := by have := h.full; omega
  have hr : ring.length = S := by rw [h.len]; omega
  have hn := h.lt hS
  refine ⟨by simp; omega, by rw [h.next_, after_mod _ _ hS]; simp, fun p hp hp2 => ?_⟩
  simp at hp hp2
  by_cases hpl : p < all.length
  · rw [List.getElem?_append_left hpl, ← h.at_ p hpl (by omega), List.getElem?_set_ne]
    rw [h.next_]
    intro e
    have h1 := Nat.div_add_mod p S
    have h2 := Nat.div_add_mod all.length S
    have h3 := Nat.sub_mod_eq_zero_of_mod_eq e
    have h4 : all.length - p < S := by omega
    rw [Nat.mod_eq_of_lt h4] at h3
    omega
  · obtain rfl : p = all.length := by omega
    rw [List.getElem?_append_right (by omega), ← h.next_, List.getElem?_set_self (by omega)]
    simp
/-- What lies dist places ahead. -/
theorem Ring.get (h : Ring S all ring next) (d : Nat) (h1 : 1 ≤ d) (h2 : d ≤ ring.length) : (all.length - d) % S < ring.length ∧ ring[(all.length - d) % S]? = all[all.length - d]? := by
  have hl := h.len
  have e := h.at_ (all.length - d) (by omega) (by omega)
  refine ⟨?_, e⟩
  have hd : all.length - d < all.length := by omega
  rw [List.getElem?_eq_getElem hd] at e
  exact (List.getElem?_eq_some_iff.1 e).1
/-- next - dist, and S more if that is below 0. -/
theorem Ring.from_ (h : Ring S all ring next) (hS : 0 < S) (d : Nat) (h1 : 1 ≤ d) (h2 : d ≤ ring.length) : (if (next : Int) - (d : Int) < 0 then (next : Int) - (d : Int) + (S : Int) else (next : Int) - (d : Int)) = (((all.length - d) % S : Nat) : Int) := by
  have hl := h.len
  have hn := h.lt hS
  have e := h.next_
  have e1 := Nat.div_add_mod all.length S
  have e2 := Nat.div_add_mod (all.length - d) S
  have e3 := Nat.mod_lt (all.length - d) hS
  rw [← e] at e1
  split
  · have : all.length - d = S * (all.length / S - 1) + (next + S - d) := by
      have : 0 < all.length / S := by
        rcases Nat.eq_zero_or_pos (all.length / S) with h0 | h0
        · rw [h0] at e1; omega
        · exact h0
      have e4 : S * (all.length / S) = S * (all.length / S - 1) + S := by
        rw [← Nat.mul_succ]; congr 1; omega
      omega
    rw [this, Nat.mul_add_mod, Nat.mod_eq_of_lt (by omega)]
    omega
  · have : all.length - d = S * (all.length / S) + (next - d) := by omega
    rw [this, Nat.mul_add_mod, Nat.mod_eq_of_lt (by omega)]
    omega
end

/-- n bytes more, each as the one d places ahead of it. -/
def grow (all : List UInt8) (d : Nat) : Nat → List UInt8
  | 0 => all
  | n + 1 => grow all d n ++ [(grow all d n).getD ((grow all d n).length - d) 0]
theorem grow_succ (all : List UInt8) (d n : Nat) : grow all d (n + 1) = grow all d n ++ [(grow all d n).getD ((grow all d n).length - d) 0] := rfl
theorem grow_len (all : List UInt8) (d n : Nat) : (grow all d n).length = all.length + n := by
  induction n with
  | zero => rfl
  | succ n ih => rw [grow_succ, List.length_append, ih]; simp; omega
theorem grow_pre (all : List UInt8) (d n : Nat) : ∃ t, grow all d n = all ++ t := by
  induction n with
  | zero => exact ⟨[], by simp [grow]⟩
  | succ n ih =>
    obtain ⟨t, ht⟩ := ih
    exact ⟨t ++ [(grow all d n).getD ((grow all d n).length - d) 0], by rw [grow_succ, ← List.append_assoc, ← ht]⟩
theorem grow_drop (all : List UInt8) (d n : Nat) : grow all d n = all ++ (grow all d n).drop all.length := by
  obtain ⟨t, ht⟩ := grow_pre all d n
  rw [ht]; simp
/-- What a copy hands back. -/
def copy (all : List UInt8) (d n : Nat) : List UInt8 := (grow all d n).drop all.length
theorem copy_len (all : List UInt8) (d n : Nat) : (copy all d n).length = n := by unfold copy; rw [List.length_drop, grow_len]; omega
theorem copy_zero (all : List UInt8) (d : Nat) : copy all d 0 = [] := by unfold copy; simp [grow]
theorem copy_succ (all : List UInt8) (d n : Nat) : copy all d (n + 1) = copy all d n ++ [(grow all d n).getD ((grow all d n).length - d) 0] := by
  unfold copy
  rw [grow_succ, List.drop_append_of_le_length (by rw [grow_len]; omega)]
theorem grow_copy (all : List UInt8) (d n : Nat) : grow all d n = all ++ copy all d n := grow_drop all d n
end WinMath
end

section
/-
  LZ77 tokens: which may be, how many bytes, which bytes. Plain mathematics.
-/
namespace LzMath
open WinMath

/-- A token. -/
structure Tok where
  len : Int
  dist : Int
  byte : UInt8

/-- The longest match, the farthest one. -/
def ml (wide : Bool) : Int := if wide then 65538 else 258
def md (wide : Bool) : Nat := if wide then 65536 else 32768
def Lone (t : Tok) : Prop := t.len = 0 ∧ t.dist = 0
def Mat (wide : Bool) (t : Tok) : Prop := t.byte = 0 ∧ 3 ≤ t.len ∧ t.len ≤ ml wide ∧ 1 ≤ t.dist ∧ t.dist ≤ (md wide : Int)
def May (wide : Bool) (t : Tok) : Prop := Lone t ∨ Mat wide t
instance (t : Tok) : Decidable (Lone t) := inferInstanceAs (Decidable (_ ∧ _))
instance (wide : Bool) (t : Tok) : Decidable (Mat wide t) := inferInstanceAs (Decidable (_ ∧ _))
instance (wide : Bool) (t : Tok) : Decidable (May wide t) := inferInstanceAs (Decidable (_ ∨ _))

/-- How many bytes a token is, and k of them. -/
def sz (t : Tok) : Nat := if t.len = 0 then 1 else t.len.toNat
def tot (f : Nat → Tok) : Nat → Nat
  | 0 => 0
  | k + 1 => tot f k + sz (f k)
/-- Token k may stand there. -/
def Ok (wide : Bool) (f : Nat → Tok) (k : Nat) : Prop := May wide (f k) ∧ (f k).dist ≤ (tot f k : Int)
def GoodT (wide : Bool) (f : Nat → Tok) (n : Nat) : Prop := ∀ i, i < n → Ok wide f i
theorem tot_mono (f : Nat → Tok) (k n : Nat) (h : k ≤ n) : tot f k ≤ tot f n := by
  induction n with
  | zero => obtain rfl : k = 0 := by omega
            exact Nat.le_refl _
  | succ n ih =>
    by_cases h1 : k ≤ n
    · exact Nat.le_trans (ih h1) (Nat.le_add_right _ _)
    · obtain rfl : k = n + 1 := by omega
      exact Nat.le_refl _

/-- All bytes behind one more token. -/
def step (all : List UInt8) (t : Tok) : List UInt8 := if t.len = 0 then all ++ [t.byte] else grow all t.dist.toNat t.len.toNat
def ex (f : Nat → Tok) : Nat → List UInt8
  | 0 => []
  | k + 1 => step (ex f k) (f k)
theorem step_len (all : List UInt8) (t : Tok) : (step all t).length = all.length + sz t := by
  unfold step sz
  split
  · simp
  · exact grow_len _ _ _
theorem ex_len (f : Nat → Tok) (k : Nat) : (ex f k).length = tot f k := by
  induction k with
  | zero => rfl
  | succ k ih => show (step _ _).length = _; rw [step_len, ih]; rfl
/-! ### two lists -/
def join (f : Nat → Tok) (n : Nat) (g : Nat → Tok) : Nat → Tok := fun i => if i < n then f i else g (i - n)
section
variable {f g : Nat → Tok} {n k : Nat}
theorem join_left (h : k < n) : join f n g k = f k := by unfold join; rw [if_pos h]
theorem join_right : join f n g (n + k) = g k := by unfold join; rw [if_neg (by omega), Nat.add_sub_cancel_left]
end
theorem grow_app (A B : List UInt8) (d n : Nat) (_h1 : 1 ≤ d) (h2 : d ≤ B.length) : grow (A ++ B) d n = A ++ grow B d n := by
  induction n with
  | zero => rfl
  | succ n ih =>
    rw [grow_succ, grow_succ, ih, List.append_assoc]
    congr 3
    rw [List.length_append, List.getD_eq_getElem?_getD, List.getD_eq_getElem?_getD, grow_len, List.getElem?_append_right (by omega)]
    congr 2
    omega
/-! ### what stands where -/
end LzMath
end

section
/-
  Matches: how far two places are alike, the places that are asked, the one that is taken. Plain mathematics.
-/
namespace MatMath

def at_ (s : List UInt8) (i : Nat) : UInt8 := s.getD i 0
/-- The same three bytes stand at q and at a. -/
def tri (s : List UInt8) (q a : Nat) : Bool := at_ s q == at_ s a && at_ s (q + 1) == at_ s (a + 1) && at_ s (q + 2) == at_ s (a + 2)
theorem tri_iff {s : List UInt8} {q a : Nat} : tri s q a = true ↔ at_ s q = at_ s a ∧ at_ s (q + 1) = at_ s (a + 1) ∧ at_ s (q + 2) = at_ s (a + 2) := by
  simp [tri, and_assoc]
theorem tri_refl (s : List UInt8) (a : Nat) : tri s a a = true := by simp [tri]
theorem tri_left {s : List UInt8} {p a : Nat} (h : tri s p a = true) (q : Nat) : tri s q p = tri s q a := by
  obtain ⟨h1, h2, h3⟩ := tri_iff.1 h
  simp [tri, h1, h2, h3]
/-- How many bytes are alike from q and from a on, at most m. -/
def ml : List UInt8 → Nat → Nat → Nat → Nat
  | _, _, _, 0 => 0
  | s, q, a, m + 1 => if at_ s q = at_ s a then ml s (q + 1) (a + 1) m + 1 else 0
theorem ml_le (s : List UInt8) (m : Nat) : ∀ q a, ml s q a m ≤ m := by
  induction m with
  | zero => intro q a; simp [ml]
  | succ m ih => intro q a; unfold ml; have := ih (q + 1) (a + 1); split <;> omega
theorem ml_same (s : List UInt8) (m : Nat) : ∀ q a i, i < ml s q a m → at_ s (q + i) = at_ s (a + i) := by
  induction m with
  | zero => intro q a i h; simp [ml] at h
  | succ m ih =>
    intro q a i h
    unfold ml at h
    split at h
    · next e =>
      cases i with
      | zero => exact e
      | succ i => have := ih (q + 1) (a + 1) i (by omega); rw [show q + (i + 1) = q + 1 + i from by omega, show a + (i + 1) = a + 1 + i from by omega]; exact this
    · omega
theorem ml_stop (s : List UInt8) (m : Nat) : ∀ q a, ml s q a m < m → at_ s (q + ml s q a m) ≠ at_ s (a + ml s q a m) := by
  induction m with
  | zero => intro q a h; omega
  | succ m ih =>
    intro q a h
    by_cases e : at_ s q = at_ s a
    · have hu : ml s q a (m + 1) = ml s (q + 1) (a + 1) m + 1 := by rw [ml, if_pos e]
      rw [hu] at h ⊢
      have := ih (q + 1) (a + 1) (by omega)
      rw [show q + (ml s (q + 1) (a + 1) m + 1) = q + 1 + ml s (q + 1) (a + 1) m from by omega, show a + (ml s (q + 1) (a + 1) m + 1) = a + 1 + ml s (q + 1) (a + 1) m from by omega]
      exact this
    · have hu : ml s q a (m + 1) = 0 := by rw [ml, if_neg e]
      rw [hu]; exact e
/-- What it is, is it. -/
theorem ml_eq {s : List UInt8} {q a m n : Nat} (h1 : n ≤ m) (h2 : ∀ i, i < n → at_ s (q + i) = at_ s (a + i)) (h3 : n = m ∨ at_ s (q + n) ≠ at_ s (a + n)) : ml s q a m = n := by
  have l1 := ml_le s m q a
  rcases Nat.lt_trichotomy (ml s q a m) n with h | h | h
  · exact absurd (h2 _ h) (ml_stop s m q a (by omega))
  · exact h
  · rcases h3 with h3 | h3
    · omega
    · exact absurd (ml_same s m q a n h) h3
/-- As many as are alike. -/
theorem ml_ge {s : List UInt8} {q a m n : Nat} (h1 : n ≤ m) (h2 : ∀ i, i < n → at_ s (q + i) = at_ s (a + i)) : n ≤ ml s q a m := by
  by_cases h : ml s q a m < n
  · exact absurd (h2 _ h) (ml_stop s m q a (by omega))
  · omega
theorem ml_tri {s : List UInt8} {q a m : Nat} (h : tri s q a = true) (hm : 3 ≤ m) : 3 ≤ ml s q a m := by
  obtain ⟨h1, h2, h3⟩ := tri_iff.1 h
  refine ml_ge hm fun i hi => ?_
  match i, hi with
  | 0, _ => exact h1
  | 1, _ => exact h2
  | 2, _ => exact h3
/-- The nearest place below k at which the three bytes of a stand. -/
def prev (s : List UInt8) (a : Nat) : Nat → Option Nat
  | 0 => none
  | q + 1 => if tri s q a then some q else prev s a q
theorem prev_some {s : List UInt8} {a e : Nat} : ∀ k, prev s a k = some e → e < k ∧ tri s e a = true ∧ ∀ q, e < q → q < k → tri s q a = false := by
  intro k
  induction k with
  | zero => intro h; cases h
  | succ k ih =>
    intro h
    unfold prev at h
    split at h
    · next ht => cases h; exact ⟨by omega, ht, fun q h1 h2 => by omega⟩
    · next ht =>
      obtain ⟨h1, h2, h3⟩ := ih h
      refine ⟨by omega, h2, fun q g1 g2 => ?_⟩
      by_cases e : q = k
      · subst e; simpa using ht
      · exact h3 q g1 (by omega)
theorem prev_none {s : List UInt8} {a : Nat} : ∀ k, prev s a k = none → ∀ q, q < k → tri s q a = false := by
  intro k
  induction k with
  | zero => intro _ q h; omega
  | succ k ih =>
    intro h q hq
    unfold prev at h
    split at h
    · cases h
    · next ht =>
      by_cases e : q = k
      · subst e; simpa using ht
      · exact ih h q (by omega)
theorem prev_congr {s : List UInt8} {p a : Nat} (h : tri s p a = true) (k : Nat) : prev s p k = prev s a k := by
  induction k with
  | zero => rfl
  | succ k ih => unfold prev; rw [tri_left h, ih]
/-- How far back the same three bytes stand: 0: nowhere, or too far. -/
def back (s : List UInt8) (far a : Nat) : Nat := match prev s a a with
  | none => 0
  | some e => if a - e ≤ far then a - e else 0
theorem back_le (s : List UInt8) (far a : Nat) : back s far a ≤ far ∧ back s far a ≤ a := by
  unfold back
  split
  · omega
  · split <;> omega

/-! ### the search -/
/-- Good, at least 1. -/
def gd (good : Int) : Int := if good < 1 then 1 else good
/-- From place q down: so many were seen, the best one so far. -/
def scan (s : List UInt8) (far m : Nat) (chain good : Int) (a : Nat) : Nat → Nat → Nat → Nat → Nat × Nat
  | 0, _, b, d => (b, d)
  | q + 1, seen, b, d =>
    if a - q ≤ far ∧ (seen : Int) < chain then
      if tri s q a then
        if gd good ≤ (ml s q a m : Int) then (ml s q a m, a - q)
        else if b < ml s q a m then scan s far m chain good a q (seen + 1) (ml s q a m) (a - q)
        else scan s far m chain good a q (seen + 1) b d
      else scan s far m chain good a q seen b d
    else (b, d)
section
variable {s : List UInt8} {far m : Nat} {chain good : Int} {a : Nat}
theorem scan_stop {q seen b d : Nat} (h : ¬ (a - q ≤ far ∧ (seen : Int) < chain)) : scan s far m chain good a (q + 1) seen b d = (b, d) := by
  rw [scan, if_neg h]
theorem scan_out {q seen b d : Nat} (h : chain ≤ (seen : Int)) : scan s far m chain good a q seen b d = (b, d) := by
  cases q with
  | zero => rfl
  | succ q => exact scan_stop (by omega)
theorem scan_far {q seen b d : Nat} (h : far + q ≤ a) : scan s far m chain good a q seen b d = (b, d) := by
  cases q with
  | zero => rfl
  | succ q => exact scan_stop (by omega)
theorem scan_pass {q seen b d : Nat} (h : tri s q a = false) : scan s far m chain good a (q + 1) seen b d = scan s far m chain good a q seen b d := by
  rw [scan]
  split
  · rw [if_neg (by simp [h])]
  · next hn =>
    by_cases h1 : (seen : Int) < chain
    · rw [scan_far (by omega)]
    · rw [scan_out (by omega)]
theorem scan_skip {e q seen b d : Nat} (he : e ≤ q) (h : ∀ p, e ≤ p → p < q → tri s p a = false) : scan s far m chain good a q seen b d = scan s far m chain good a e seen b d := by
  induction q with
  | zero => obtain rfl : e = 0 := by omega
            rfl
  | succ q ih =>
    by_cases h1 : e ≤ q
    · rw [scan_pass (h q h1 (by omega)), ih h1 (fun p h2 h3 => h p h2 (by omega))]
    · obtain rfl : e = q + 1 := by omega
      rfl
/-- The best there may be stays. -/
theorem scan_top {q seen b d : Nat} (hb : b = m) (hg : (b : Int) < gd good) : scan s far m chain good a q seen b d = (b, d) := by
  induction q generalizing seen with
  | zero => rfl
  | succ q ih =>
    have hl := ml_le s m q a
    rw [scan]
    split
    · split
      · rw [if_neg (by omega), if_neg (by omega)]; exact ih
      · exact ih
    · rfl
theorem scan_good {q seen b d : Nat} (h : a - q ≤ far ∧ (seen : Int) < chain) (ht : tri s q a = true) (hg : gd good ≤ (ml s q a m : Int)) : scan s far m chain good a (q + 1) seen b d = (ml s q a m, a - q) := by
  rw [scan, if_pos h, if_pos ht, if_pos hg]
theorem scan_more {q seen b d : Nat} (h : a - q ≤ far ∧ (seen : Int) < chain) (ht : tri s q a = true) (hg : ¬ gd good ≤ (ml s q a m : Int)) (hb : b < ml s q a m) : scan s far m chain good a (q + 1) seen b d = scan s far m chain good a q (seen + 1) (ml s q a m) (a - q) := by
  rw [scan, if_pos h, if_pos ht, if_neg hg, if_pos hb]
theorem scan_less {q seen b d : Nat} (h : a - q ≤ far ∧ (seen : Int) < chain) (ht : tri s q a = true) (hg : ¬ gd good ≤ (ml s q a m : Int)) (hb : ¬ b < ml s q a m) : scan s far m chain good a (q + 1) seen b d = scan s far m chain good a q (seen + 1) b d := by
  rw [scan, if_pos h, if_pos ht, if_neg hg, if_neg hb]

/-! ### one step along the chain -/
/-- From p (a itself, or a place where the same stands): nothing there. -/
theorem step_none {p seen b d : Nat} (hp : tri s p a = true) (hpa : p ≤ a) (h0 : back s far p = 0) : scan s far m chain good a p seen b d = (b, d) := by
  unfold back at h0
  rw [prev_congr hp] at h0
  split at h0
  · next hn =>
    rw [scan_skip (Nat.zero_le _) (fun q _ hq => prev_none _ hn q hq)]
    rfl
  · next e he =>
    obtain ⟨h1, h2, h3⟩ := prev_some _ he
    split at h0
    · omega
    · rw [scan_skip (show e + 1 ≤ p from h1) (fun q g1 g2 => h3 q (by omega) g2)]
      exact scan_stop (by omega)
theorem step_some {p : Nat} (hp : tri s p a = true) (h0 : 0 < back s far p) :
    ∃ e, e < p ∧ p - back s far p = e ∧ tri s e a = true ∧ ∀ seen b d, scan s far m chain good a p seen b d = scan s far m chain good a (e + 1) seen b d := by
  unfold back at h0 ⊢
  rw [prev_congr hp] at h0 ⊢
  split at h0
  · omega
  · next e he =>
    obtain ⟨h1, h2, h3⟩ := prev_some _ he
    split at h0
    · next hle =>
      refine ⟨e, h1, ?_, h2, fun seen b d => scan_skip (show e + 1 ≤ p from h1) (fun q g1 g2 => h3 q (by omega) g2)⟩
      rw [if_pos hle]; omega
    · omega
end

/-! ### what is found -/
def far_ (wide : Bool) : Nat := if wide then 65536 else 32768
def long_ (wide : Bool) : Nat := if wide then 65538 else 258
/-- The length and the distance of a match. -/
def find (s : List UInt8) (chain good : Int) (wide : Bool) (a : Nat) : Nat × Nat :=
  if a + 3 ≤ s.length then scan s (far_ wide) (min (long_ wide) (s.length - a)) chain good a a 0 0 0 else (0, 0)
/-- .. at any index. -/
def findI (s : List UInt8) (chain good : Int) (wide : Bool) (a : Int) : Nat × Nat := if 0 ≤ a then find s chain good wide a.toNat else (0, 0)

/-- What a search comes to: nothing new, or a place that was seen. -/
theorem scan_is {s : List UInt8} {far m : Nat} {chain good : Int} {a : Nat} : ∀ q seen b d, q ≤ a → scan s far m chain good a q seen b d = (b, d) ∨
    ∃ p, p < q ∧ tri s p a = true ∧ a - p ≤ far ∧ scan s far m chain good a q seen b d = (ml s p a m, a - p) := by
  intro q
  induction q with
  | zero => intro seen b d _; exact .inl rfl
  | succ q ih =>
    intro seen b d hq
    rw [scan]
    split
    · next h =>
      split
      · next ht =>
        split
        · exact .inr ⟨q, by omega, ht, h.1, rfl⟩
        · split
          · rcases ih (seen + 1) (ml s q a m) (a - q) (by omega) with e | ⟨p, h1, h2, h3, h4⟩
            · exact .inr ⟨q, by omega, ht, h.1, e⟩
            · exact .inr ⟨p, by omega, h2, h3, h4⟩
          · rcases ih (seen + 1) b d (by omega) with e | ⟨p, h1, h2, h3, h4⟩
            · exact .inl e
            · exact .inr ⟨p, by omega, h2, h3, h4⟩
      · rcases ih seen b d (by omega) with e | ⟨p, h1, h2, h3, h4⟩
        · exact .inl e
        · exact .inr ⟨p, by omega, h2, h3, h4⟩
    · exact .inl rfl
theorem long_ge (wide : Bool) : 258 ≤ long_ wide ∧ long_ wide ≤ 65538 := by cases wide <;> simp [long_]
theorem far_ge (wide : Bool) : 32768 ≤ far_ wide ∧ far_ wide ≤ 65536 := by cases wide <;> simp [far_]
theorem find_is (s : List UInt8) (chain good : Int) (wide : Bool) (a : Nat) : find s chain good wide a = (0, 0) ∨
    ∃ p, a + 3 ≤ s.length ∧ p < a ∧ tri s p a = true ∧ a - p ≤ far_ wide ∧ find s chain good wide a = (ml s p a (min (long_ wide) (s.length - a)), a - p) ∧ 3 ≤ ml s p a (min (long_ wide) (s.length - a)) := by
  unfold find
  split
  · next h3 =>
    rcases scan_is (s := s) (far := far_ wide) (m := min (long_ wide) (s.length - a)) (chain := chain) (good := good) a 0 0 0 (Nat.le_refl _) with e | ⟨p, h1, h2, h4, h5⟩
    · exact .inl e
    · have := long_ge wide
      exact .inr ⟨p, h3, h1, h2, h4, h5, ml_tri h2 (by omega)⟩
  · exact .inl rfl
/-- The numbers of what is found. -/
theorem find_nums (s : List UInt8) (chain good : Int) (wide : Bool) (a : Nat) : ∃ n d : Nat, find s chain good wide a = (n, d) ∧ (n = 0 ∧ d = 0 ∨ 3 ≤ n ∧ n ≤ long_ wide ∧ a + n ≤ s.length ∧ 1 ≤ d ∧ d ≤ far_ wide ∧ d ≤ a ∧ ∀ i, i < n → at_ s (a + i) = at_ s (a + i - d)) := by
  rcases find_is s chain good wide a with e | ⟨p, h0, h1, h2, h3, h4, h5⟩
  · exact ⟨0, 0, e, .inl ⟨rfl, rfl⟩⟩
  · refine ⟨_, _, h4, .inr ⟨h5, ?_, ?_, by omega, by omega, by omega, fun i hi => ?_⟩⟩
    · have := ml_le s (min (long_ wide) (s.length - a)) p a; omega
    · have := ml_le s (min (long_ wide) (s.length - a)) p a; omega
    · have := ml_same _ _ p a i hi
      rw [← this]
      congr 1
      omega
end MatMath
end

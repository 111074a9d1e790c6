import Derived.Test.YtdbcendnibgcaaaDoorMgAb

section
/-
  Canonical prefix codes: Kraft's sum, the first code of each length, codes; no code is the beginning of another one. Plain lists of numbers: no program, no dump.
-/
namespace CanMath
open BitMath

/-- So many rows of 15 bits begin with a code of n bits. -/
def share (n : Nat) : Nat := if n = 0 then 0 else 2 ^ (15 - n)
/-- Kraft's sum. -/
def kr (ls : List Nat) : Nat := (ls.map share).sum
/-- The rows that begin with a code shorter than n. -/
def low (ls : List Nat) (n : Nat) : Nat := (ls.map fun x => if x < n then share x else 0).sum
/-- The first code of n bits. -/
def first (ls : List Nat) : Nat → Nat
  | 0 => 0
  | 1 => 0
  | n + 2 => 2 * (first ls (n + 1) + ls.count (n + 1))
/-- The code of the symbol at place i, of n bits. -/
def codeN (ls : List Nat) (n i : Nat) : Nat := first ls n + (ls.take i).count n
theorem kr_cons (x : Nat) (t : List Nat) : kr (x :: t) = share x + kr t := by simp [kr]
theorem share_le (n : Nat) : share n ≤ 16384 := by
  unfold share
  split
  · omega
  · rw [show 16384 = 2 ^ 14 from rfl]; exact Nat.pow_le_pow_right (by omega) (by omega)
theorem share_pos {n : Nat} (h : 0 < n) : 0 < share n := by
  unfold share; rw [if_neg (by omega)]; exact Nat.two_pow_pos _
theorem kr_le (ls : List Nat) : kr ls ≤ 16384 * ls.length := by
  induction ls with
  | nil => simp [kr]
  | cons x t ih => rw [kr_cons, List.length_cons]; have := share_le x; omega
theorem count_take_succ (ls : List Nat) (i n : Nat) (h : i < ls.length) : (ls.take (i + 1)).count n = (ls.take i).count n + (if ls[i] = n then 1 else 0) := by
  rw [List.take_succ_eq_append_getElem h, List.count_append, List.count_singleton]
  simp
theorem count_take_le (ls : List Nat) (i n : Nat) : (ls.take i).count n ≤ ls.count n := (List.take_sublist i ls).count_le n

theorem low_zero (ls : List Nat) : low ls 0 = 0 := by
  unfold low; induction ls <;> simp_all
theorem low_one (ls : List Nat) : low ls 1 = 0 := by
  unfold low
  induction ls with
  | nil => rfl
  | cons x t ih =>
    rw [List.map_cons, List.sum_cons, ih]
    split
    · rw [show x = 0 from by omega]; rfl
    · rfl
theorem low_succ (ls : List Nat) (n : Nat) : low ls (n + 1) = low ls n + ls.count n * share n := by
  unfold low
  induction ls with
  | nil => simp
  | cons x t ih =>
    rw [List.map_cons, List.sum_cons, ih, List.map_cons, List.sum_cons, List.count_cons, Nat.add_mul]
    by_cases h1 : x < n
    · rw [if_pos (by omega), if_pos h1, if_neg (by simp; omega)]; omega
    · by_cases h2 : x = n
      · subst h2; simp; omega
      · rw [if_neg (by omega), if_neg h1, if_neg (by simp; omega)]; omega
theorem low_mono (ls : List Nat) {a b : Nat} (h : a ≤ b) : low ls a ≤ low ls b := by
  induction h with
  | refl => exact Nat.le_refl _
  | step _ ih => rw [Nat.succ_eq_add_one, low_succ]; omega
theorem low_all (ls : List Nat) (h : ∀ x ∈ ls, x ≤ 15) : low ls 16 = kr ls := by
  unfold low kr
  induction ls with
  | nil => rfl
  | cons x t ih =>
    rw [List.map_cons, List.sum_cons, List.map_cons, List.sum_cons, ih (fun y hy => h y (List.mem_cons_of_mem _ hy)), if_pos (by have := h x (List.mem_cons_self ..); omega)]

theorem first_low (ls : List Nat) (n : Nat) (h1 : 1 ≤ n) (h2 : n ≤ 15) : first ls n * 2 ^ (15 - n) = low ls n := by
  induction n with
  | zero => omega
  | succ n ih =>
    cases n with
    | zero => rw [low_one]; simp [first]
    | succ n =>
      rw [first, low_succ, ← ih (by omega) (by omega)]
      have e : share (n + 1) = 2 ^ (15 - (n + 1)) := by unfold share; rw [if_neg (by omega)]
      rw [e, show 15 - (n + 1) = (15 - (n + 1 + 1)) + 1 from by omega, Nat.pow_succ, ← Nat.add_mul, Nat.mul_comm 2, Nat.mul_assoc, Nat.mul_comm 2]

/-- Where the rows begin that begin with a code. -/
def start (ls : List Nat) (n i : Nat) : Nat := codeN ls n i * 2 ^ (15 - n)
theorem start_eq (ls : List Nat) (n i : Nat) (h1 : 1 ≤ n) (h2 : n ≤ 15) : start ls n i = low ls n + (ls.take i).count n * share n := by
  unfold start codeN
  rw [Nat.add_mul, first_low ls n h1 h2]
  have e : share n = 2 ^ (15 - n) := by unfold share; rw [if_neg (by omega)]
  rw [e]
theorem start_end (ls : List Nat) (n i : Nat) (hi : i < ls.length) (hn : ls[i] = n) (h1 : 1 ≤ n) (h2 : n ≤ 15) : start ls n i + share n ≤ low ls (n + 1) := by
  rw [start_eq ls n i h1 h2, low_succ]
  have h := count_take_le ls (i + 1) n
  rw [count_take_succ ls i n hi, if_pos hn] at h
  have := Nat.mul_le_mul_right (share n) h
  rw [Nat.add_mul, Nat.one_mul] at this
  omega
theorem start_le (ls : List Nat) (n i : Nat) (h1 : 1 ≤ n) (h2 : n ≤ 15) : low ls n ≤ start ls n i := by
  rw [start_eq ls n i h1 h2]; omega

/-- The codes' rows lie one behind the other, by length and place. -/
theorem apart_len (ls : List Nat) (i k : Nat) {n : Nat} (hi : i < ls.length) (h1 : 1 ≤ ls[i]) (hk15 : n ≤ 15) (hlt : ls[i] < n) : start ls ls[i] i + share ls[i] ≤ start ls n k :=
  Nat.le_trans (start_end ls _ i hi rfl h1 (by omega)) (Nat.le_trans (low_mono ls (by omega)) (start_le ls n k (by omega) hk15))
theorem count_lt (ls : List Nat) (i k n : Nat) (hi : i < ls.length) (hn : ls[i] = n) (hik : i < k) : (ls.take i).count n + 1 ≤ (ls.take k).count n := by
  have h := count_take_succ ls i n hi
  rw [if_pos hn] at h
  rw [← h]
  have e : ls.take (i + 1) = (ls.take k).take (i + 1) := by rw [List.take_take, Nat.min_eq_left (by omega)]
  rw [e]
  exact count_take_le _ _ _
theorem apart_place (ls : List Nat) (i k : Nat) (hi : i < ls.length) (h1 : 1 ≤ ls[i]) (h2 : ls[i] ≤ 15) (hik : i < k) : start ls ls[i] i + share ls[i] ≤ start ls ls[i] k := by
  rw [start_eq ls _ i h1 h2, start_eq ls _ k h1 h2]
  have := Nat.mul_le_mul_right (share ls[i]) (count_lt ls i k ls[i] hi rfl hik)
  rw [Nat.add_mul, Nat.one_mul] at this
  omega
theorem start_room (ls : List Nat) (hall : ∀ x ∈ ls, x ≤ 15) (i : Nat) (hi : i < ls.length) (h1 : 1 ≤ ls[i]) : start ls ls[i] i + share ls[i] ≤ kr ls := by
  rw [← low_all ls hall]
  have h2 := hall ls[i] (List.getElem_mem hi)
  exact Nat.le_trans (start_end ls _ i hi rfl h1 h2) (low_mono ls (by omega))
theorem share_eq {n : Nat} (h : 1 ≤ n) : share n = 2 ^ (15 - n) := by unfold share; rw [if_neg (by omega)]
/-- A code has no more bits than its length says. -/
theorem codeN_lt (ls : List Nat) (hall : ∀ x ∈ ls, x ≤ 15) (hk : kr ls ≤ 32768) (i : Nat) (hi : i < ls.length) (h1 : 1 ≤ ls[i]) : codeN ls ls[i] i < 2 ^ ls[i] := by
  have h := start_room ls hall i hi h1
  have h2 := hall ls[i] (List.getElem_mem hi)
  have hp := share_pos (n := ls[i]) (by omega)
  rw [share_eq h1] at h hp
  unfold start at h
  have e : 32768 = 2 ^ ls[i] * 2 ^ (15 - ls[i]) := by rw [← Nat.pow_add, show ls[i] + (15 - ls[i]) = 15 from by omega]
  generalize codeN ls ls[i] i = c at *
  by_cases hc : c < 2 ^ ls[i]
  · exact hc
  · have := Nat.mul_le_mul_right (2 ^ (15 - ls[i])) (show 2 ^ ls[i] ≤ c by omega)
    omega

/-- A row of 15 bits begins with the code. -/
def Fits (ls : List Nat) (r i : Nat) : Prop := ∃ h : i < ls.length, 1 ≤ ls[i] ∧ r / 2 ^ (15 - ls[i]) = codeN ls ls[i] i
theorem div_iff (r c m : Nat) : r / 2 ^ m = c ↔ c * 2 ^ m ≤ r ∧ r < c * 2 ^ m + 2 ^ m := by
  have hp : 0 < 2 ^ m := Nat.two_pow_pos m
  constructor
  · rintro rfl
    exact ⟨Nat.div_mul_le_self _ _, Nat.lt_div_mul_add hp⟩
  · rintro ⟨h1, h2⟩
    exact Nat.div_eq_of_lt_le h1 (by rw [Nat.succ_mul]; exact h2)
theorem fits_iff (ls : List Nat) (r i : Nat) (h : i < ls.length) (h1 : 1 ≤ ls[i]) : (r / 2 ^ (15 - ls[i]) = codeN ls ls[i] i) ↔ start ls ls[i] i ≤ r ∧ r < start ls ls[i] i + share ls[i] := by
  rw [div_iff, share_eq h1]; rfl
/-- Two codes: one lies behind the other. -/
theorem sides (ls : List Nat) (hall : ∀ x ∈ ls, x ≤ 15) (i k : Nat) (hi : i < ls.length) (hk : k < ls.length) (h1 : 1 ≤ ls[i]) (k1 : 1 ≤ ls[k]) (hne : i ≠ k) :
    start ls ls[i] i + share ls[i] ≤ start ls ls[k] k ∨ start ls ls[k] k + share ls[k] ≤ start ls ls[i] i := by
  have h15 := hall ls[i] (List.getElem_mem hi)
  have k15 := hall ls[k] (List.getElem_mem hk)
  by_cases hlt : ls[i] < ls[k]
  · exact .inl (apart_len ls i k hi h1 k15 hlt)
  · by_cases hgt : ls[k] < ls[i]
    · exact .inr (apart_len ls k i hk k1 h15 hgt)
    · have e : ls[i] = ls[k] := by omega
      by_cases hik : i < k
      · have := apart_place ls i k hi h1 h15 hik
        left; rw [← e]; exact this
      · have := apart_place ls k i hk k1 k15 (by omega)
        right; rw [e]; exact this
theorem fits_one (ls : List Nat) (hall : ∀ x ∈ ls, x ≤ 15) (r i k : Nat) (h : Fits ls r i) (hk : Fits ls r k) : i = k := by
  obtain ⟨hi, h1, h⟩ := h
  obtain ⟨hk', k1, hk⟩ := hk
  rw [fits_iff ls r i hi h1] at h
  rw [fits_iff ls r k hk' k1] at hk
  by_cases hne : i = k
  · exact hne
  · rcases sides ls hall i k hi hk' h1 k1 hne with h' | h' <;> omega
/-- The lengths that are not 0. -/
def some_ (ls : List Nat) : List Nat := ls.filter fun x => decide (0 < x)
end CanMath
end

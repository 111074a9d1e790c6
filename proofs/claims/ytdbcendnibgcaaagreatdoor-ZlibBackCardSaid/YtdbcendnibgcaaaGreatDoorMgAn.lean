import Derived.Test.YtdbcendnibgcaaaGreatDoorMgAb

section
/-
  Canonical prefix codes: Kraft's sum, the first code of each length, codes; no code is the beginning of another one. Plain lists of numbers: no program, no dump.
-/
namespace CanMath
open BitMath

/-- So many rows of 15 bits begin with a code of n bits. -/
def share (n : Nat) : Nat := if n = 0 then 0 else 2 ^ (15 - n)
/-- Kraft's sum. -/
def kr (ls : List Nat) : Nat := (ls.map share).sum
/-- The rows that begin with a code shorter than n. -/
def low (ls : List Nat) (n : Nat) : Nat := (ls.map fun x => if x < n then share x else 0).sum
/-- The first code of n bits. -/
def first (ls : List Nat) : Nat → Nat
  | 0 => 0
  | 1 => 0
  | n + 2 => 2 * (first ls (n + 1) + ls.count (n + 1))
/-- The code of the symbol at place i, of n bits. -/
def codeN (ls : List Nat) (n i : Nat) : Nat := first ls n + (ls.take i).count n
def code (ls : List Nat) (i : Nat) (h : i < ls.length) : Nat := if ls[i] = 0 then 0 else codeN ls ls[i] i

theorem kr_nil : kr [] = 0 := rfl
theorem kr_cons (x : Nat) (t : List Nat) : kr (x :: t) = share x + kr t := by simp [kr]
theorem kr_append (a b : List Nat) : kr (a ++ b) = kr a + kr b := by simp [kr]
theorem share_le (n : Nat) : share n ≤ 16384 := by
  unfold share
  split
  · omega
  · rw [show 16384 = 2 ^ 14 from rfl]; exact Nat.pow_le_pow_right (by omega) (by omega)
theorem share_pos {n : Nat} (h : 0 < n) : 0 < share n := by
  unfold share; rw [if_neg (by omega)]; exact Nat.two_pow_pos _
theorem kr_le (ls : List Nat) : kr ls ≤ 16384 * ls.length := by
  induction ls with
  | nil => simp [kr]
  | cons x t ih => rw [kr_cons, List.length_cons]; have := share_le x; omega
theorem kr_take_succ (ls : List Nat) (i : Nat) (h : i < ls.length) : kr (ls.take (i + 1)) = kr (ls.take i) + share ls[i] := by
  rw [List.take_succ_eq_append_getElem h, kr_append, kr_cons, kr_nil, Nat.add_zero]
theorem kr_take_le (ls : List Nat) (i : Nat) : kr (ls.take i) ≤ kr ls := by
  conv => rhs; rw [← List.take_append_drop i ls, kr_append]
  omega
theorem count_take_succ (ls : List Nat) (i n : Nat) (h : i < ls.length) : (ls.take (i + 1)).count n = (ls.take i).count n + (if ls[i] = n then 1 else 0) := by
  rw [List.take_succ_eq_append_getElem h, List.count_append, List.count_singleton]
  simp
theorem count_take_le (ls : List Nat) (i n : Nat) : (ls.take i).count n ≤ ls.count n := (List.take_sublist i ls).count_le n

theorem low_zero (ls : List Nat) : low ls 0 = 0 := by
  unfold low; induction ls <;> simp_all
theorem low_one (ls : List Nat) : low ls 1 = 0 := by
  unfold low
  induction ls with
  | nil => rfl
  | cons x t ih =>
    rw [List.map_cons, List.sum_cons, ih]
    split
    · rw [show x = 0 from by omega]; rfl
    · rfl
theorem low_succ (ls : List Nat) (n : Nat) : low ls (n + 1) = low ls n + ls.count n * share n := by
  unfold low
  induction ls with
  | nil => simp
  | cons x t ih =>
    rw [List.map_cons, List.sum_cons, ih, List.map_cons, List.sum_cons, List.count_cons, Nat.add_mul]
    by_cases h1 : x < n
    · rw [if_pos (by omega), if_pos h1, if_neg (by simp; omega)]; omega
    · by_cases h2 : x = n
      · subst h2; simp; omega
      · rw [if_neg (by omega), if_neg h1, if_neg (by simp; omega)]; omega
theorem low_mono (ls : List Nat) {a b : Nat} (h : a ≤ b) : low ls a ≤ low ls b := by
  induction h with
  | refl => exact Nat.le_refl _
  | step _ ih => rw [Nat.succ_eq_add_one, low_succ]; omega
theorem low_all (ls : List Nat) (h : ∀ x ∈ ls, x ≤ 15) : low ls 16 = kr ls := by
  unfold low kr
  induction ls with
  | nil => rfl
  | cons x t ih =>
    rw [List.map_cons, List.sum_cons, List.map_cons, List.sum_cons, ih (fun y hy => h y (List.mem_cons_of_mem _ hy)), if_pos (by have := h x (List.mem_cons_self ..); omega)]

theorem first_low (ls : List Nat) (n : Nat) (h1 : 1 ≤ n) (h2 : n ≤ 15) : first ls n * 2 ^ (15 - n) = low ls n := by
  induction n with
  | zero => omega
  | succ n ih =>
    cases n with
    | zero => rw [low_one]; simp [first]
    | succ n =>
      rw [first, low_succ, ← ih (by omega) (by omega)]
      have e : share (n + 1) = 2 ^ (15 - (n + 1)) := by unfold share; rw [if_neg (by omega)]
      rw [e, show 15 - (n + 1) = (15 - (n + 1 + 1)) + 1 from by omega, Nat.pow_succ, ← Nat.add_mul, Nat.mul_comm 2, Nat.mul_assoc, Nat.mul_comm 2]

/-- Where the rows begin that begin with a code. -/
def start (ls : List Nat) (n i : Nat) : Nat := codeN ls n i * 2 ^ (15 - n)
theorem start_eq (ls : List Nat) (n i : Nat) (h1 : 1 ≤ n) (h2 : n ≤ 15) : start ls n i = low ls n + (ls.take i).count n * share n := by
  unfold start codeN
  rw [Nat.add_mul, first_low ls n h1 h2]
  have e : share n = 2 ^ (15 - n) := by unfold share; rw [if_neg (by omega)]
  rw [e]
theorem start_end (ls : List Nat) (n i : Nat) (hi : i < ls.length) (hn : ls[i] = n) (h1 : 1 ≤ n) (h2 : n ≤ 15) : start ls n i + share n ≤ low ls (n + 1) := by
  rw [start_eq ls n i h1 h2, low_succ]
  have h := count_take_le ls (i + 1) n
  rw [count_take_succ ls i n hi, if_pos hn] at h
  have := Nat.mul_le_mul_right (share n) h
  rw [Nat.add_mul, Nat.one_mul] at this
  omega
theorem start_le (ls : List Nat) (n i : Nat) (h1 : 1 ≤ n) (h2 : n ≤ 15) : low ls n ≤ start ls n i := by
  rw [start_eq ls n i h1 h2]; omega

/-- The codes' rows lie one behind the other, by length and place. -/
theorem apart_len (ls : List Nat) (i k : Nat) {n : Nat} (hi : i < ls.length) (h1 : 1 ≤ ls[i]) (hk15 : n ≤ 15) (hlt : ls[i] < n) : start ls ls[i] i + share ls[i] ≤ start ls n k :=
  Nat.le_trans (start_end ls _ i hi rfl h1 (by omega)) (Nat.le_trans (low_mono ls (by omega)) (start_le ls n k (by omega) hk15))
theorem count_lt (ls : List Nat) (i k n : Nat) (hi : i < ls.length) (hn : ls[i] = n) (hik : i < k) : (ls.take i).count n + 1 ≤ (ls.take k).count n := by
  have h := count_take_succ ls i n hi
  rw [if_pos hn] at h
  rw [← h]
  have e : ls.take (i + 1) = (ls.take k).take (i + 1) := by rw [List.take_take, Nat.min_eq_left (by omega)]
  rw [e]
  exact count_take_le _ _ _
theorem apart_place (ls : List Nat) (i k : Nat) (hi : i < ls.length) (h1 : 1 ≤ ls[i]) (h2 : ls[i] ≤ 15) (hik : i < k) : start ls ls[i] i + share ls[i] ≤ start ls ls[i] k := by
  rw [start_eq ls _ i h1 h2, start_eq ls _ k h1 h2]
  have := Nat.mul_le_mul_right (share ls[i]) (count_lt ls i k ls[i] hi rfl hik)
  rw [Nat.add_mul, Nat.one_mul] at this
  omega
theorem start_room (ls : List Nat) (hall : ∀ x ∈ ls, x ≤ 15) (i : Nat) (hi : i < ls.length) (h1 : 1 ≤ ls[i]) : start ls ls[i] i + share ls[i] ≤ kr ls := by
  rw [← low_all ls hall]
  have h2 := hall ls[i] (List.getElem_mem hi)
  exact Nat.le_trans (start_end ls _ i hi rfl h1 h2) (low_mono ls (by omega))
theorem share_eq {n : Nat} (h : 1 ≤ n) : share n = 2 ^ (15 - n) := by unfold share; rw [if_neg (by omega)]
/-- A code has no more bits than its length says. -/
theorem codeN_lt (ls : List Nat) (hall : ∀ x ∈ ls, x ≤ 15) (hk : kr ls ≤ 32768) (i : Nat) (hi : i < ls.length) (h1 : 1 ≤ ls[i]) : codeN ls ls[i] i < 2 ^ ls[i] := by
  have h := start_room ls hall i hi h1
  have h2 := hall ls[i] (List.getElem_mem hi)
  have hp := share_pos (n := ls[i]) (by omega)
  rw [share_eq h1] at h hp
  unfold start at h
  have e : 32768 = 2 ^ ls[i] * 2 ^ (15 - ls[i]) := by rw [← Nat.pow_add, show ls[i] + (15 - ls[i]) = 15 from by omega]
  generalize codeN ls ls[i] i = c at *
  by_cases hc : c < 2 ^ ls[i]
  · exact hc
  · have := Nat.mul_le_mul_right (2 ^ (15 - ls[i])) (show 2 ^ ls[i] ≤ c by omega)
    omega

/-- A row of 15 bits begins with the code. -/
def Fits (ls : List Nat) (r i : Nat) : Prop := ∃ h : i < ls.length, 1 ≤ ls[i] ∧ r / 2 ^ (15 - ls[i]) = codeN ls ls[i] i
theorem div_iff (r c m : Nat) : r / 2 ^ m = c ↔ c * 2 ^ m ≤ r ∧ r < c * 2 ^ m + 2 ^ m := by
  have hp : 0 < 2 ^ m := Nat.two_pow_pos m
  constructor
  · rintro rfl
    exact ⟨Nat.div_mul_le_self _ _, Nat.lt_div_mul_add hp⟩
  · rintro ⟨h1, h2⟩
    exact Nat.div_eq_of_lt_le h1 (by rw [Nat.succ_mul]; exact h2)
theorem fits_iff (ls : List Nat) (r i : Nat) (h : i < ls.length) (h1 : 1 ≤ ls[i]) : (r / 2 ^ (15 - ls[i]) = codeN ls ls[i] i) ↔ start ls ls[i] i ≤ r ∧ r < start ls ls[i] i + share ls[i] := by
  rw [div_iff, share_eq h1]; rfl
/-- Two codes: one lies behind the other. -/
theorem sides (ls : List Nat) (hall : ∀ x ∈ ls, x ≤ 15) (i k : Nat) (hi : i < ls.length) (hk : k < ls.length) (h1 : 1 ≤ ls[i]) (k1 : 1 ≤ ls[k]) (hne : i ≠ k) :
    start ls ls[i] i + share ls[i] ≤ start ls ls[k] k ∨ start ls ls[k] k + share ls[k] ≤ start ls ls[i] i := by
  have h15 := hall ls[i] (List.getElem_mem hi)
  have k15 := hall ls[k] (List.getElem_mem hk)
  by_cases hlt : ls[i] < ls[k]
  · exact .inl (apart_len ls i k hi h1 k15 hlt)
  · by_cases hgt : ls[k] < ls[i]
    · exact .inr (apart_len ls k i hk k1 h15 hgt)
    · have e : ls[i] = ls[k] := by omega
      by_cases hik : i < k
      · have := apart_place ls i k hi h1 h15 hik
        left; rw [← e]; exact this
      · have := apart_place ls k i hk k1 k15 (by omega)
        right; rw [e]; exact this
theorem fits_one (ls : List Nat) (hall : ∀ x ∈ ls, x ≤ 15) (r i k : Nat) (h : Fits ls r i) (hk : Fits ls r k) : i = k := by
  obtain ⟨hi, h1, h⟩ := h
  obtain ⟨hk', k1, hk⟩ := hk
  rw [fits_iff ls r i hi h1] at h
  rw [fits_iff ls r k hk' k1] at hk
  by_cases hne : i = k
  · exact hne
  · rcases sides ls hall i k hi hk' h1 k1 hne with h' | h' <;> omega
theorem count_at (ls : List Nat) (n q : Nat) (h : q < ls.count n) : ∃ i, ∃ hi : i < ls.length, ls[i] = n ∧ (ls.take i).count n = q := by
  induction ls generalizing q with
  | nil => simp at h
  | cons x t ih =>
    rw [List.count_cons] at h
    by_cases hx : x = n
    · subst hx
      simp at h
      cases q with
      | zero => exact ⟨0, by simp, rfl, by simp⟩
      | succ q =>
        obtain ⟨i, hi, h1, h2⟩ := ih q (by omega)
        exact ⟨i + 1, by simpa using hi, by simpa using h1, by simp [h2]⟩
    · rw [if_neg (by simpa using hx)] at h
      obtain ⟨i, hi, h1, h2⟩ := ih q (by omega)
      refine ⟨i + 1, by simpa using hi, by simpa using h1, ?_⟩
      rw [List.take_succ_cons, List.count_cons_of_ne (by simpa using hx)]
      exact h2
/-- Each row below Kraft's sum begins with a code. -/
theorem fits_some (ls : List Nat) (hall : ∀ x ∈ ls, x ≤ 15) (r : Nat) (h : r < kr ls) : ∃ i, Fits ls r i := by
  rw [← low_all ls hall] at h
  have key : ∀ n, n ≤ 16 → r < low ls n → ∃ i, Fits ls r i := by
    intro n
    induction n with
    | zero => intro _ h; rw [low_zero] at h; omega
    | succ n ih =>
      intro hn h
      by_cases hlt : r < low ls n
      · exact ih (by omega) hlt
      · rw [low_succ] at h
        have hn0 : 1 ≤ n := by
          rcases Nat.eq_zero_or_pos n with rfl | h0
          · rw [show share 0 = 0 from rfl] at h; omega
          · exact h0
        have hp := share_pos (n := n) hn0
        obtain ⟨q, hq, hq1, hq2⟩ : ∃ q, q < ls.count n ∧ low ls n + q * share n ≤ r ∧ r < low ls n + q * share n + share n := by
          refine ⟨(r - low ls n) / share n, ?_, ?_, ?_⟩
          · rw [Nat.div_lt_iff_lt_mul hp]; omega
          · have := Nat.div_mul_le_self (r - low ls n) (share n); omega
          · have := Nat.lt_div_mul_add hp (a := r - low ls n); omega
        obtain ⟨i, hi, hin, hc⟩ := count_at ls n q hq
        subst hin
        refine ⟨i, hi, hn0, ?_⟩
        rw [fits_iff ls r i hi hn0, start_eq ls _ i hn0 (by omega), hc]
        exact ⟨hq1, hq2⟩
  exact key 16 (Nat.le_refl _) h

/-- How many of the first k codes the row begins with. -/
def fitsAt (ls : List Nat) (r : Nat) : Nat → Nat
  | 0 => 0
  | k + 1 => fitsAt ls r k + (if h : k < ls.length then (if 1 ≤ ls[k] ∧ r / 2 ^ (15 - ls[k]) = codeN ls ls[k] k then 1 else 0) else 0)
theorem fitsAt_succ (ls : List Nat) (r k : Nat) (h : k < ls.length) : fitsAt ls r (k + 1) = fitsAt ls r k + (if 1 ≤ ls[k] ∧ r / 2 ^ (15 - ls[k]) = codeN ls ls[k] k then 1 else 0) := by
  rw [fitsAt, dif_pos h]
theorem fitsAt_hit (ls : List Nat) (r k : Nat) (h : k < ls.length) (h1 : 1 ≤ ls[k]) (h2 : r / 2 ^ (15 - ls[k]) = codeN ls ls[k] k) : fitsAt ls r (k + 1) = fitsAt ls r k + 1 := by
  rw [fitsAt_succ ls r k h, if_pos ⟨h1, h2⟩]
theorem fitsAt_miss (ls : List Nat) (r k : Nat) (h : k < ls.length) (h2 : ¬ (1 ≤ ls[k] ∧ r / 2 ^ (15 - ls[k]) = codeN ls ls[k] k)) : fitsAt ls r (k + 1) = fitsAt ls r k := by
  rw [fitsAt_succ ls r k h, if_neg h2]; rfl
theorem fitsAt_none (ls : List Nat) (r k : Nat) (h : ∀ i, i < k → ¬ Fits ls r i) : fitsAt ls r k = 0 := by
  induction k with
  | zero => rfl
  | succ k ih =>
    have hk := ih (fun i hi => h i (by omega))
    by_cases hl : k < ls.length
    · rw [fitsAt_miss ls r k hl (fun hc => h k (by omega) ⟨hl, hc.1, hc.2⟩), hk]
    · rw [fitsAt, dif_neg hl, hk]
theorem fitsAt_some (ls : List Nat) (hall : ∀ x ∈ ls, x ≤ 15) (r k i : Nat) (hf : Fits ls r i) (hik : i < k) : fitsAt ls r k = 1 := by
  induction k with
  | zero => omega
  | succ k ih =>
    by_cases he : i = k
    · subst he
      obtain ⟨hi, h1, h2⟩ := hf
      rw [fitsAt_hit ls r i hi h1 h2, fitsAt_none ls r i (fun j hj hfj => by have := fits_one ls hall r i j ⟨hi, h1, h2⟩ hfj; omega)]
    · have := ih (by omega)
      by_cases hl : k < ls.length
      · rw [fitsAt_miss ls r k hl (fun hc => he (fits_one ls hall r i k hf ⟨hl, hc.1, hc.2⟩)), this]
      · rw [fitsAt, dif_neg hl, this]
theorem fitsAt_le (ls : List Nat) (hall : ∀ x ∈ ls, x ≤ 15) (r k : Nat) : fitsAt ls r k ≤ 1 := by
  by_cases h : ∃ i, i < k ∧ Fits ls r i
  · obtain ⟨i, hi, hf⟩ := h
    rw [fitsAt_some ls hall r k i hf hi]; omega
  · rw [fitsAt_none ls r k (fun i hi hf => h ⟨i, hi, hf⟩)]; omega
theorem fitsAt_whole (ls : List Nat) (hall : ∀ x ∈ ls, x ≤ 15) (r : Nat) (hr : r < kr ls) : fitsAt ls r ls.length = 1 := by
  obtain ⟨i, hf⟩ := fits_some ls hall r hr
  exact fitsAt_some ls hall r _ i hf hf.1

/-- No code is another one's beginning. -/
theorem no_prefix (ls : List Nat) (hall : ∀ x ∈ ls, x ≤ 15) (i k : Nat) (hi : i < ls.length) (hk : k < ls.length) (h1 : 1 ≤ ls[i]) (hle : ls[i] ≤ ls[k]) (hne : k ≠ i) : codeN ls ls[k] k / 2 ^ (ls[k] - ls[i]) ≠ codeN ls ls[i] i := by
  intro h
  have k15 := hall ls[k] (List.getElem_mem hk)
  have e : codeN ls ls[k] k = start ls ls[k] k / 2 ^ (15 - ls[k]) := by unfold start; rw [Nat.mul_div_cancel _ (Nat.two_pow_pos _)]
  rw [e, Nat.div_div_eq_div_mul, ← Nat.pow_add, show 15 - ls[k] + (ls[k] - ls[i]) = 15 - ls[i] from by omega] at h
  have hfi : Fits ls (start ls ls[k] k) i := ⟨hi, h1, h⟩
  have hfk : Fits ls (start ls ls[k] k) k := ⟨hk, by omega, e.symm⟩
  exact hne (fits_one ls hall _ k i hfk hfi)
/-- A longer code lies behind. -/
theorem longer (ls : List Nat) (hall : ∀ x ∈ ls, x ≤ 15) (i k : Nat) (hi : i < ls.length) (hk : k < ls.length) (h1 : 1 ≤ ls[i]) (hlt : ls[i] < ls[k]) : codeN ls ls[i] i ≤ codeN ls ls[k] k / 2 ^ (ls[k] - ls[i]) := by
  have k15 := hall ls[k] (List.getElem_mem hk)
  have h := apart_len ls i k hi h1 k15 hlt
  have e : codeN ls ls[k] k = start ls ls[k] k / 2 ^ (15 - ls[k]) := by unfold start; rw [Nat.mul_div_cancel _ (Nat.two_pow_pos _)]
  rw [e, Nat.div_div_eq_div_mul, ← Nat.pow_add, show 15 - ls[k] + (ls[k] - ls[i]) = 15 - ls[i] from by omega, Nat.le_div_iff_mul_le (Nat.two_pow_pos _)]
  have : codeN ls ls[i] i * 2 ^ (15 - ls[i]) = start ls ls[i] i := rfl
  omega
theorem rises (ls : List Nat) (i k : Nat) (hi : i < ls.length) (hik : i < k) : codeN ls ls[i] i < codeN ls ls[i] k := by
  have := count_lt ls i k ls[i] hi rfl hik
  unfold codeN; omega

/-- The lengths that are not 0. -/
def some_ (ls : List Nat) : List Nat := ls.filter fun x => decide (0 < x)
theorem some_snoc (ls : List Nat) (n : Nat) : some_ (ls ++ [n]) = if 0 < n then some_ ls ++ [n] else some_ ls := by
  unfold some_; rw [List.filter_append]
  split
  · next h => simp [h]
  · next h => simp [h]
theorem some_kr (ls : List Nat) : kr (some_ ls) = kr ls := by
  induction ls with
  | nil => rfl
  | cons x t ih =>
    unfold some_ at ih ⊢
    by_cases h : 0 < x
    · rw [List.filter_cons_of_pos (by simpa using h), kr_cons, kr_cons, ih]
    · rw [List.filter_cons_of_neg (by simpa using h), kr_cons, ih, show x = 0 from by omega]
      show kr t = 0 + kr t
      omega
theorem some_count (ls : List Nat) : (some_ ls).count 1 = ls.count 1 := by
  unfold some_; rw [List.count_filter (by simp)]
theorem kr_pos (f : List Nat) (h : ∀ x ∈ f, 0 < x) : kr f = 0 ↔ f = [] := by
  cases f with
  | nil => simp [kr]
  | cons x t =>
    have := share_pos (h x (List.mem_cons_self ..))
    rw [kr_cons]
    constructor
    · intro h; omega
    · intro h; cases h
theorem some_pos (ls : List Nat) : ∀ x ∈ some_ ls, 0 < x := by
  intro x hx
  have := (List.mem_filter.1 hx).2
  simpa using this
theorem some_none (ls : List Nat) : (some_ ls).length = 0 ↔ kr ls = 0 := by
  rw [← some_kr, kr_pos _ (some_pos ls), List.length_eq_zero_iff]
theorem kr_perm {a b : List Nat} (h : a.Perm b) : kr a = kr b := by
  unfold kr; exact (h.map share).sum_nat
theorem single (ls : List Nat) : ((some_ ls).length = 1 ∧ (some_ ls).getLastD 0 = 1) ↔ (kr ls = 16384 ∧ ls.count 1 = 1) := by
  rw [← some_kr, ← some_count]
  have hp := some_pos ls
  generalize some_ ls = f at *
  constructor
  · rintro ⟨h1, h2⟩
    obtain ⟨x, rfl⟩ := List.length_eq_one_iff.1 h1
    have : x = 1 := by simpa using h2
    subst this
    exact ⟨rfl, rfl⟩
  · rintro ⟨h1, h2⟩
    have hm : 1 ∈ f := List.count_pos_iff.1 (by omega)
    have hperm := List.perm_cons_erase hm
    have hk := kr_perm hperm
    rw [kr_cons, h1, show share 1 = 16384 from rfl] at hk
    have he : f.erase 1 = [] := (kr_pos _ (fun x hx => hp x (List.mem_of_mem_erase hx))).1 (by omega)
    rw [he] at hperm
    have : f = [1] := List.perm_singleton.1 hperm
    subst this
    exact ⟨rfl, rfl⟩

/-- A code as bits, the highest first. -/
def bitsAt (ls : List Nat) (i : Nat) : List Bool := if h : i < ls.length then (lows ls[i] (codeN ls ls[i] i)).reverse else []
theorem bitsAt_eq (ls : List Nat) (i : Nat) (h : i < ls.length) : bitsAt ls i = (lows ls[i] (codeN ls ls[i] i)).reverse := by unfold bitsAt; rw [dif_pos h]
theorem bitsAt_len (ls : List Nat) (i : Nat) (h : i < ls.length) : (bitsAt ls i).length = ls[i] := by rw [bitsAt_eq ls i h, List.length_reverse, lows_len]
theorem bits_prefix (ls : List Nat) (hall : ∀ x ∈ ls, x ≤ 15) (hkr : kr ls ≤ 32768) (i k : Nat) (hi : i < ls.length) (hk : k < ls.length) (h1 : 1 ≤ ls[i]) (h : bitsAt ls i <+: bitsAt ls k) : i = k := by
  have hle : ls[i] ≤ ls[k] := by have := h.length_le; rwa [bitsAt_len ls i hi, bitsAt_len ls k hk] at this
  by_cases hne : k = i
  · exact hne.symm
  · exfalso
    refine no_prefix ls hall i k hi hk h1 hle hne ?_
    obtain ⟨t, ht⟩ := h
    rw [bitsAt_eq ls i hi, bitsAt_eq ls k hk] at ht
    have ht2 := congrArg List.reverse ht
    rw [List.reverse_append, List.reverse_reverse, List.reverse_reverse] at ht2
    have hlk := lows_len ls[k] (codeN ls ls[k] k)
    have hli := lows_len ls[i] (codeN ls ls[i] i)
    have htl : t.reverse.length = ls[k] - ls[i] := by
      have := congrArg List.length ht2
      rw [List.length_append, hlk, hli] at this; omega
    rw [show ls[k] = (ls[k] - ls[i]) + ls[i] from by omega, lows_add] at ht2
    rw [show ls[k] - ls[i] + ls[i] = ls[k] from by omega] at ht2
    have h3 := (List.append_inj ht2 (by rw [htl, lows_len])).2
    have h4 := congrArg num h3
    rw [num_lows, num_lows] at h4
    have hci := codeN_lt ls hall hkr i hi h1
    have hck := codeN_lt ls hall hkr k hk (by omega)
    rw [Nat.mod_eq_of_lt hci, Nat.mod_eq_of_lt ?_] at h4
    · exact h4.symm
    · rw [Nat.div_lt_iff_lt_mul (Nat.two_pow_pos _), ← Nat.pow_add, show ls[i] + (ls[k] - ls[i]) = ls[k] from by omega]
      exact hck
/-- Of a row that begins with one code no other code is the beginning. -/
theorem bits_only (ls : List Nat) (hall : ∀ x ∈ ls, x ≤ 15) (hkr : kr ls ≤ 32768) (i k : Nat) (hi : i < ls.length) (hk : k < ls.length) (h1 : 1 ≤ ls[i]) (k1 : 1 ≤ ls[k]) (rest : List Bool) (h : bitsAt ls k <+: bitsAt ls i ++ rest) : i = k := by
  rcases List.prefix_or_prefix_of_prefix h (List.prefix_append (bitsAt ls i) rest) with h' | h'
  · exact (bits_prefix ls hall hkr k i hk hi k1 h').symm
  · exact bits_prefix ls hall hkr i k hi hk h1 h'
end CanMath
end

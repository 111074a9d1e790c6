/-
  A sliding window as a ring: what is in the ring, what a copy appends. Plain mathematics.
-/
import Derived.WalkKit
namespace WinMath

/-- The ring of a window of S bytes behind all these; the place of the next one. -/
structure Ring (S : Nat) (all ring : List UInt8) (next : Nat) : Prop where
  len : ring.length = min all.length S
  next_ : next = all.length % S
  at_ : ∀ p, p < all.length → all.length ≤ p + S → ring[p % S]? = all[p]?

def after (S n : Nat) : Nat := if n + 1 = S then 0 else n + 1
theorem after_mod (S m : Nat) (hS : 0 < S) : after S (m % S) = (m + 1) % S := by
  unfold after
  have h := Nat.mod_lt m hS
  have e := Nat.div_add_mod m S
  by_cases h1 : m % S + 1 = S
  · rw [if_pos h1]
    have : m + 1 = S * (m / S + 1) := by rw [Nat.mul_add]; omega
    rw [this, Nat.mul_mod_right]
  · rw [if_neg h1]
    have : m + 1 = S * (m / S) + (m % S + 1) := by omega
    rw [this, Nat.mul_add_mod, Nat.mod_eq_of_lt (by omega : m % S + 1 < S)]

theorem Ring.nil (S : Nat) : Ring S [] [] 0 := ⟨by simp, by simp, fun p h => by simp at h⟩

section
variable {S : Nat} {all ring : List UInt8} {next : Nat}
theorem Ring.lt (h : Ring S all ring next) (hS : 0 < S) : next < S := by rw [h.next_]; exact Nat.mod_lt _ hS
theorem Ring.full (h : Ring S all ring next) : ring.length < S ↔ all.length < S := by rw [h.len]; omega
theorem Ring.le (h : Ring S all ring next) : ring.length ≤ S := by rw [h.len]; omega

theorem Ring.push (h : Ring S all ring next) (hS : 0 < S) (c : UInt8) (hl : ring.length < S) : Ring S (all ++ [c]) (ring ++ [c]) (after S next) := by
  have ha := h.full.1 hl
  have hr : ring.length = all.length := by rw [h.len]; omega
  refine ⟨by simp; omega, by rw [h.next_, after_mod _ _ hS]; simp, fun p hp _ => ?_⟩
  simp at hp
  rw [Nat.mod_eq_of_lt (by omega)]
  by_cases hpl : p < all.length
  · rw [List.getElem?_append_left (by omega), List.getElem?_append_left hpl, ← h.at_ p hpl (by omega), Nat.mod_eq_of_lt (by omega)]
  · obtain rfl : p = all.length := by omega
    rw [List.getElem?_append_right (by omega), List.getElem?_append_right (by omega), hr]
theorem Ring.put (h : Ring S all ring next) (hS : 0 < S) (c : UInt8) (hl : ¬ ring.length < S) : Ring S (all ++ [c]) (ring.set next c) (after S next) := by
  have ha : S ≤ all.length := by have := h.full; omega
  have hr : ring.length = S := by rw [h.len]; omega
  have hn := h.lt hS
  refine ⟨by simp; omega, by rw [h.next_, after_mod _ _ hS]; simp, fun p hp hp2 => ?_⟩
  simp at hp hp2
  by_cases hpl : p < all.length
  · rw [List.getElem?_append_left hpl, ← h.at_ p hpl (by omega), List.getElem?_set_ne]
    rw [h.next_]
    intro e
    have h1 := Nat.div_add_mod p S
    have h2 := Nat.div_add_mod all.length S
    have h3 := Nat.sub_mod_eq_zero_of_mod_eq e
    have h4 : all.length - p < S := by omega
    rw [Nat.mod_eq_of_lt h4] at h3
    omega
  · obtain rfl : p = all.length := by omega
    rw [List.getElem?_append_right (by omega), ← h.next_, List.getElem?_set_self (by omega)]
    simp
/-- What lies dist places ahead. -/
theorem Ring.get (h : Ring S all ring next) (d : Nat) (h1 : 1 ≤ d) (h2 : d ≤ ring.length) : (all.length - d) % S < ring.length ∧ ring[(all.length - d) % S]? = all[all.length - d]? := by
  have hl := h.len
  have e := h.at_ (all.length - d) (by omega) (by omega)
  refine ⟨?_, e⟩
  have hd : all.length - d < all.length := by omega
  rw [List.getElem?_eq_getElem hd] at e
  exact (List.getElem?_eq_some_iff.1 e).1
/-- next - dist, and S more if that is below 0. -/
theorem Ring.from_ (h : Ring S all ring next) (hS : 0 < S) (d : Nat) (h1 : 1 ≤ d) (h2 : d ≤ ring.length) : (if (next : Int) - (d : Int) < 0 then (next : Int) - (d : Int) + (S : Int) else (next : Int) - (d : Int)) = (((all.length - d) % S : Nat) : Int) := by
  have hl := h.len
  have hn := h.lt hS
  have e := h.next_
  have e1 := Nat.div_add_mod all.length S
  have e2 := Nat.div_add_mod (all.length - d) S
  have e3 := Nat.mod_lt (all.length - d) hS
  rw [← e] at e1
  split
  · have : all.length - d = S * (all.length / S - 1) + (next + S - d) := by
      have : 0 < all.length / S := by
        rcases Nat.eq_zero_or_pos (all.length / S) with h0 | h0
        · rw [h0] at e1; omega
        · exact h0
      have e4 : S * (all.length / S) = S * (all.length / S - 1) + S := by
        rw [← Nat.mul_succ]; congr 1; omega
      omega
    rw [this, Nat.mul_add_mod, Nat.mod_eq_of_lt (by omega)]
    omega
  · have : all.length - d = S * (all.length / S) + (next - d) := by omega
    rw [this, Nat.mul_add_mod, Nat.mod_eq_of_lt (by omega)]
    omega
end

/-- n bytes more, each as the one d places ahead of it. -/
def grow (all : List UInt8) (d : Nat) : Nat → List UInt8
  | 0 => all
  | n + 1 => grow all d n ++ [(grow all d n).getD ((grow all d n).length - d) 0]
theorem grow_zero (all : List UInt8) (d : Nat) : grow all d 0 = all := rfl
theorem grow_succ (all : List UInt8) (d n : Nat) : grow all d (n + 1) = grow all d n ++ [(grow all d n).getD ((grow all d n).length - d) 0] := rfl
theorem grow_len (all : List UInt8) (d n : Nat) : (grow all d n).length = all.length + n := by
  induction n with
  | zero => rfl
  | succ n ih => rw [grow_succ, List.length_append, ih]; simp; omega
theorem grow_pre (all : List UInt8) (d n : Nat) : ∃ t, grow all d n = all ++ t := by
  induction n with
  | zero => exact ⟨[], by simp [grow]⟩
  | succ n ih =>
    obtain ⟨t, ht⟩ := ih
    exact ⟨t ++ [(grow all d n).getD ((grow all d n).length - d) 0], by rw [grow_succ, ← List.append_assoc, ← ht]⟩
theorem grow_drop (all : List UInt8) (d n : Nat) : grow all d n = all ++ (grow all d n).drop all.length := by
  obtain ⟨t, ht⟩ := grow_pre all d n
  rw [ht]; simp
/-- What a copy hands back. -/
def copy (all : List UInt8) (d n : Nat) : List UInt8 := (grow all d n).drop all.length
theorem copy_len (all : List UInt8) (d n : Nat) : (copy all d n).length = n := by unfold copy; rw [List.length_drop, grow_len]; omega
theorem copy_zero (all : List UInt8) (d : Nat) : copy all d 0 = [] := by unfold copy; simp [grow]
theorem copy_succ (all : List UInt8) (d n : Nat) : copy all d (n + 1) = copy all d n ++ [(grow all d n).getD ((grow all d n).length - d) 0] := by
  unfold copy
  rw [grow_succ, List.drop_append_of_le_length (by rw [grow_len]; omega)]
theorem grow_copy (all : List UInt8) (d n : Nat) : grow all d n = all ++ copy all d n := grow_drop all d n
/-- It repeats the last d bytes. -/
theorem copy_get (all : List UInt8) (d n : Nat) (h1 : 1 ≤ d) (h2 : d ≤ all.length) (i : Nat) (hi : i < n) : (copy all d n)[i]? = all[all.length - d + i % d]? := by
  induction n generalizing i with
  | zero => omega
  | succ n ih =>
    rw [copy_succ]
    by_cases h : i < n
    · rw [List.getElem?_append_left (by rw [copy_len]; exact h)]
      exact ih i h
    · obtain rfl : i = n := by omega
      rw [List.getElem?_append_right (by rw [copy_len]; omega), copy_len, Nat.sub_self, List.getElem?_cons_zero, List.getD_eq_getElem?_getD, grow_len]
      have hlt : all.length - d + i % d < all.length := by have := Nat.mod_lt i (show 0 < d by omega); omega
      have key : (grow all d i)[all.length + i - d]? = all[all.length - d + i % d]? := by
        rw [grow_copy]
        by_cases hid : i < d
        · rw [List.getElem?_append_left (by omega), Nat.mod_eq_of_lt hid]
          congr 1
          omega
        · rw [List.getElem?_append_right (by omega), ih _ (by omega), Nat.mod_eq_sub_mod (show i ≥ d by omega)]
          congr 3
          omega
      rw [key, List.getElem?_eq_getElem hlt]
      rfl
end WinMath

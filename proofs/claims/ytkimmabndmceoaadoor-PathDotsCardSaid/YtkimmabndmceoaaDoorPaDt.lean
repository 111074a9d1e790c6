/-
  Paths: parts written one by one, with one more at place k (chapter 19, PathDots). Plain lists: no program, no dump.
-/
import Derived.Test.YtkimmabndmceoaaDoorPaSf
namespace PaMath
theorem ends_len (l : List (List UInt8)) : (ends l).length = sum l := by
  induction l with
  | nil => rfl
  | cons p r ih => rw [ends, sum, List.length_append, List.length_cons, ih]; omega
theorem put_sum (l : List (List UInt8)) (k : Nat) (m : List UInt8) : sum (put l k m) = sum l + (m.length + 1) := by
  unfold put
  have h := sum_app (l.take k) (l.drop k)
  rw [List.take_append_drop] at h
  rw [sum_app, sum, h]
  omega
/-- What stands written when i rounds are over. -/
def gg (L : List (List UInt8)) (k : Nat) (m : List UInt8) (i : Nat) : List UInt8 := ends (if i ≤ k then L.take i else put (L.take i) k m)
theorem gg_zero (L : List (List UInt8)) (k : Nat) (m : List UInt8) : gg L k m 0 = [] := by unfold gg; rw [if_pos (Nat.zero_le _)]; rfl
theorem gg_last {L : List (List UInt8)} {k : Nat} (m : List UInt8) (hk : k ≤ L.length) : gg L k m (L.length + 1) = ends (put L k m) := by
  unfold gg
  rw [if_neg (by omega), List.take_of_length_le (by omega)]
theorem gg_len (L : List (List UInt8)) (k : Nat) (m : List UInt8) (i : Nat) : (gg L k m i).length ≤ sum L + (m.length + 1) := by
  unfold gg
  rw [ends_len]
  have := sum_take L i
  split
  · omega
  · rw [put_sum]; omega
theorem ends_one (p : List UInt8) : ends [p] = p ++ [47] := rfl
theorem gg_at {L : List (List UInt8)} {k : Nat} {m : List UInt8} (h : k < L.length) : gg L k m (k + 1) = gg L k m k ++ m ++ [47] ++ L[k] ++ [47] := by
  unfold gg
  rw [if_neg (by omega), if_pos (Nat.le_refl _), take_snoc h]
  have e : put (L.take k ++ [L[k]]) k m = L.take k ++ [m, L[k]] := by
    unfold put
    have hl : (L.take k).length = k := by rw [List.length_take]; omega
    rw [List.take_append_of_le_length (by omega), List.drop_append_of_le_length (by omega), List.take_of_length_le (by omega), List.drop_eq_nil_of_le (by omega)]
    rfl
  rw [e, ends_app]
  simp [ends]
theorem gg_at_end {L : List (List UInt8)} {m : List UInt8} : gg L L.length m (L.length + 1) = gg L L.length m L.length ++ m ++ [47] := by
  unfold gg
  rw [if_neg (by omega), if_pos (Nat.le_refl _), List.take_of_length_le (by omega), List.take_length]
  have e : put L L.length m = L ++ [m] := by
    unfold put
    rw [List.take_length, List.drop_length]
  rw [e, ends_app, ends_one, List.append_assoc]
theorem gg_other {L : List (List UInt8)} {k i : Nat} {m : List UInt8} (h : i < L.length) (hk : i ≠ k) : gg L k m (i + 1) = gg L k m i ++ L[i] ++ [47] := by
  unfold gg
  by_cases hi : i < k
  · rw [if_pos (by omega), if_pos (by omega), take_snoc h, ends_app, ends_one, List.append_assoc]
  · rw [if_neg (by omega), if_neg (by omega), take_snoc h]
    have e : put (L.take i ++ [L[i]]) k m = put (L.take i) k m ++ [L[i]] := by
      unfold put
      have hl : (L.take i).length = i := by rw [List.length_take]; omega
      rw [List.take_append_of_le_length (by omega), List.drop_append_of_le_length (by omega)]
      simp
    rw [e, ends_app, ends_one, List.append_assoc]
theorem gg_other_end {L : List (List UInt8)} {k : Nat} {m : List UInt8} (hk : k < L.length) : gg L k m (L.length + 1) = gg L k m L.length := by
  unfold gg
  rw [if_neg (by omega), if_neg (by omega), List.take_of_length_le (by omega), List.take_length]
end PaMath

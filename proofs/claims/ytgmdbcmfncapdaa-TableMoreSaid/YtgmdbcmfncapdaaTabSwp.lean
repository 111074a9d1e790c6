/-
  Bits swapped in pairs, fours, bytes: a word turned round. Plain numbers: no program, no dump.
-/
import Derived.Test.YtgmdbcmfncapdaaTabMath
namespace TabMath
open BitMath

theorem num_and (l m : List Bool) (h : l.length = m.length) : num l &&& num m = num (List.zipWith (fun a b => b && a) l m) := by
  induction l generalizing m with
  | nil => simp [num]
  | cons a l ih =>
    cases m with
    | nil => simp at h
    | cons b m =>
      rw [List.zipWith_cons_cons, num, num, num, ← ih m (by simpa using h)]
      apply Nat.eq_of_testBit_eq
      intro i
      rw [Nat.testBit_and]
      cases i with
      | zero => cases a <;> cases b <;> simp [Nat.testBit_zero] <;> omega
      | succ i =>
        rw [Nat.testBit_succ, Nat.testBit_succ, Nat.testBit_succ]
        have e : ∀ (c : Bool) (x : Nat), (c.toNat + 2 * x) / 2 = x := fun c x => by cases c <;> simp <;> omega
        rw [e, e, e, Nat.testBit_and]
theorem num_or (l m : List Bool) (h : l.length = m.length) : num l ||| num m = num (List.zipWith (fun a b => a || b) l m) := by
  induction l generalizing m with
  | nil =>
    cases m with
    | nil => simp [num]
    | cons b m => simp at h
  | cons a l ih =>
    cases m with
    | nil => simp at h
    | cons b m =>
      rw [List.zipWith_cons_cons, num, num, num, ← ih m (by simpa using h)]
      apply Nat.eq_of_testBit_eq
      intro i
      rw [Nat.testBit_or]
      cases i with
      | zero => cases a <;> cases b <;> simp [Nat.testBit_zero] <;> omega
      | succ i =>
        rw [Nat.testBit_succ, Nat.testBit_succ, Nat.testBit_succ]
        have e : ∀ (c : Bool) (x : Nat), (c.toNat + 2 * x) / 2 = x := fun c x => by cases c <;> simp <;> omega
        rw [e, e, e, Nat.testBit_or]
theorem num_drop (l : List Bool) (k : Nat) : num l / 2 ^ k = num (l.drop k) := by
  induction k generalizing l with
  | zero => simp
  | succ k ih =>
    cases l with
    | nil => simp [num]
    | cons a l =>
      rw [List.drop_succ_cons, ← ih, num, Nat.pow_succ, Nat.mul_comm (2 ^ k), ← Nat.div_div_eq_div_mul]
      congr 1
      cases a <;> simp <;> omega
theorem num_take (l : List Bool) (k : Nat) : num l % 2 ^ k = num (l.take k) := by
  rw [← num_lows]
  by_cases h : k ≤ l.length
  · congr 1
    have e := lows_num l
    rw [show l.length = k + (l.length - k) from by omega, lows_add] at e
    have e2 := congrArg (List.take k) e
    rw [List.take_append_of_le_length (by rw [lows_len]; omega), List.take_of_length_le (by rw [lows_len]; omega)] at e2
    exact e2
  · rw [List.take_of_length_le (by omega), num_lows, Nat.mod_eq_of_lt]
    exact Nat.lt_of_lt_of_le (num_lt l) (Nat.pow_le_pow_right (by omega) (by omega))
theorem num_up (l : List Bool) (k : Nat) : num l * 2 ^ k = num (List.replicate k false ++ l) := by
  rw [num_append, num_zero, List.length_replicate, Nat.zero_add, Nat.mul_comm]
theorem num_end (l : List Bool) (k : Nat) : num (l ++ List.replicate k false) = num l := by
  rw [num_append, num_zero]; rfl

/-- Bits k apart change places. -/
def swp (k m x : Nat) : Nat := ((x / 2 ^ k) &&& m) ||| ((x &&& m) * 2 ^ k % 2 ^ 32)
theorem swp_num (k m : Nat) (l ms : List Bool) (hk : k ≤ 32) (hl : l.length = 32) (hm : m = num ms) (hml : ms.length = 32) :
    swp k m (num l) = num (List.zipWith (fun a b => a || b) (List.zipWith (fun a b => b && a) (l.drop k ++ List.replicate k false) ms) ((List.replicate k false ++ List.zipWith (fun a b => b && a) l ms).take 32)) := by
  unfold swp
  subst hm
  rw [num_drop, ← num_end (l.drop k) k, num_and _ _ (by simp; omega), num_and _ _ (by omega), num_up, num_take, num_or _ _ (by simp; omega)]

set_option maxRecDepth 10000 in
theorem swp_1 (b0 b1 b2 b3 b4 b5 b6 b7 b8 b9 b10 b11 b12 b13 b14 b15 b16 b17 b18 b19 b20 b21 b22 b23 b24 b25 b26 b27 b28 b29 b30 b31 : Bool) : swp 1 1431655765 (num [b0, b1, b2, b3, b4, b5, b6, b7, b8, b9, b10, b11, b12, b13, b14, b15, b16, b17, b18, b19, b20, b21, b22, b23, b24, b25, b26, b27, b28, b29, b30, b31]) = num [b1, b0, b3, b2, b5, b4, b7, b6, b9, b8, b11, b10, b13, b12, b15, b14, b17, b16, b19, b18, b21, b20, b23, b22, b25, b24, b27, b26, b29, b28, b31, b30] := by
  rw [swp_num 1 1431655765 _ [true, false, true, false, true, false, true, false, true, false, true, false, true, false, true, false, true, false, true, false, true, false, true, false, true, false, true, false, true, false, true, false] (by decide) rfl (by decide) rfl]
  congr 1
  simp only [List.drop_succ_cons, List.drop_zero, List.replicate, List.cons_append, List.nil_append, List.zipWith_cons_cons, List.zipWith_nil_left, List.take_succ_cons, List.take_zero, Bool.true_and, Bool.false_and, Bool.or_false, Bool.false_or]

set_option maxRecDepth 10000 in
theorem swp_2 (b0 b1 b2 b3 b4 b5 b6 b7 b8 b9 b10 b11 b12 b13 b14 b15 b16 b17 b18 b19 b20 b21 b22 b23 b24 b25 b26 b27 b28 b29 b30 b31 : Bool) : swp 2 858993459 (num [b0, b1, b2, b3, b4, b5, b6, b7, b8, b9, b10, b11, b12, b13, b14, b15, b16, b17, b18, b19, b20, b21, b22, b23, b24, b25, b26, b27, b28, b29, b30, b31]) = num [b2, b3, b0, b1, b6, b7, b4, b5, b10, b11, b8, b9, b14, b15, b12, b13, b18, b19, b16, b17, b22, b23, b20, b21, b26, b27, b24, b25, b30, b31, b28, b29] := by
  rw [swp_num 2 858993459 _ [true, true, false, false, true, true, false, false, true, true, false, false, true, true, false, false, true, true, false, false, true, true, false, false, true, true, false, false, true, true, false, false] (by decide) rfl (by decide) rfl]
  congr 1
  simp only [List.drop_succ_cons, List.drop_zero, List.replicate, List.cons_append, List.nil_append, List.zipWith_cons_cons, List.zipWith_nil_left, List.take_succ_cons, List.take_zero, Bool.true_and, Bool.false_and, Bool.or_false, Bool.false_or]

set_option maxRecDepth 10000 in
theorem swp_4 (b0 b1 b2 b3 b4 b5 b6 b7 b8 b9 b10 b11 b12 b13 b14 b15 b16 b17 b18 b19 b20 b21 b22 b23 b24 b25 b26 b27 b28 b29 b30 b31 : Bool) : swp 4 252645135 (num [b0, b1, b2, b3, b4, b5, b6, b7, b8, b9, b10, b11, b12, b13, b14, b15, b16, b17, b18, b19, b20, b21, b22, b23, b24, b25, b26, b27, b28, b29, b30, b31]) = num [b4, b5, b6, b7, b0, b1, b2, b3, b12, b13, b14, b15, b8, b9, b10, b11, b20, b21, b22, b23, b16, b17, b18, b19, b28, b29, b30, b31, b24, b25, b26, b27] := by
  rw [swp_num 4 252645135 _ [true, true, true, true, false, false, false, false, true, true, true, true, false, false, false, false, true, true, true, true, false, false, false, false, true, true, true, true, false, false, false, false] (by decide) rfl (by decide) rfl]
  congr 1
  simp only [List.drop_succ_cons, List.drop_zero, List.replicate, List.cons_append, List.nil_append, List.zipWith_cons_cons, List.zipWith_nil_left, List.take_succ_cons, List.take_zero, Bool.true_and, Bool.false_and, Bool.or_false, Bool.false_or]

set_option maxRecDepth 10000 in
theorem swp_8 (b0 b1 b2 b3 b4 b5 b6 b7 b8 b9 b10 b11 b12 b13 b14 b15 b16 b17 b18 b19 b20 b21 b22 b23 b24 b25 b26 b27 b28 b29 b30 b31 : Bool) : swp 8 16711935 (num [b0, b1, b2, b3, b4, b5, b6, b7, b8, b9, b10, b11, b12, b13, b14, b15, b16, b17, b18, b19, b20, b21, b22, b23, b24, b25, b26, b27, b28, b29, b30, b31]) = num [b8, b9, b10, b11, b12, b13, b14, b15, b0, b1, b2, b3, b4, b5, b6, b7, b24, b25, b26, b27, b28, b29, b30, b31, b16, b17, b18, b19, b20, b21, b22, b23] := by
  rw [swp_num 8 16711935 _ [true, true, true, true, true, true, true, true, false, false, false, false, false, false, false, false, true, true, true, true, true, true, true, true, false, false, false, false, false, false, false, false] (by decide) rfl (by decide) rfl]
  congr 1
  simp only [List.drop_succ_cons, List.drop_zero, List.replicate, List.cons_append, List.nil_append, List.zipWith_cons_cons, List.zipWith_nil_left, List.take_succ_cons, List.take_zero, Bool.true_and, Bool.false_and, Bool.or_false, Bool.false_or]

set_option maxRecDepth 10000 in
theorem swp_16 (b0 b1 b2 b3 b4 b5 b6 b7 b8 b9 b10 b11 b12 b13 b14 b15 b16 b17 b18 b19 b20 b21 b22 b23 b24 b25 b26 b27 b28 b29 b30 b31 : Bool) : swp 16 65535 (num [b0, b1, b2, b3, b4, b5, b6, b7, b8, b9, b10, b11, b12, b13, b14, b15, b16, b17, b18, b19, b20, b21, b22, b23, b24, b25, b26, b27, b28, b29, b30, b31]) = num [b16, b17, b18, b19, b20, b21, b22, b23, b24, b25, b26, b27, b28, b29, b30, b31, b0, b1, b2, b3, b4, b5, b6, b7, b8, b9, b10, b11, b12, b13, b14, b15] := by
  rw [swp_num 16 65535 _ [true, true, true, true, true, true, true, true, true, true, true, true, true, true, true, true, false, false, false, false, false, false, false, false, false, false, false, false, false, false, false, false] (by decide) rfl (by decide) rfl]
  congr 1
  simp only [List.drop_succ_cons, List.drop_zero, List.replicate, List.cons_append, List.nil_append, List.zipWith_cons_cons, List.zipWith_nil_left, List.take_succ_cons, List.take_zero, Bool.true_and, Bool.false_and, Bool.or_false, Bool.false_or]

theorem list32 (l : List Bool) (h : l.length = 32) : ∃ b0 b1 b2 b3 b4 b5 b6 b7 b8 b9 b10 b11 b12 b13 b14 b15 b16 b17 b18 b19 b20 b21 b22 b23 b24 b25 b26 b27 b28 b29 b30 b31, l = [b0, b1, b2, b3, b4, b5, b6, b7, b8, b9, b10, b11, b12, b13, b14, b15, b16, b17, b18, b19, b20, b21, b22, b23, b24, b25, b26, b27, b28, b29, b30, b31] := by
  match l, h with
  | [b0, b1, b2, b3, b4, b5, b6, b7, b8, b9, b10, b11, b12, b13, b14, b15, b16, b17, b18, b19, b20, b21, b22, b23, b24, b25, b26, b27, b28, b29, b30, b31], _ => exact ⟨b0, b1, b2, b3, b4, b5, b6, b7, b8, b9, b10, b11, b12, b13, b14, b15, b16, b17, b18, b19, b20, b21, b22, b23, b24, b25, b26, b27, b28, b29, b30, b31, rfl⟩
/-- A word turned round. -/
theorem swp_all (x : Nat) (h : x < 2 ^ 32) : swp 16 65535 (swp 8 16711935 (swp 4 252645135 (swp 2 858993459 (swp 1 1431655765 x)))) = rc 32 x := by
  obtain ⟨b0, b1, b2, b3, b4, b5, b6, b7, b8, b9, b10, b11, b12, b13, b14, b15, b16, b17, b18, b19, b20, b21, b22, b23, b24, b25, b26, b27, b28, b29, b30, b31, hl⟩ := list32 (lows 32 x) (lows_len 32 x)
  have hx : x = num (lows 32 x) := by rw [num_lows, Nat.mod_eq_of_lt h]
  unfold rc
  rw [hl] at hx ⊢
  rw [hx, swp_1, swp_2, swp_4, swp_8, swp_16]
  rfl
theorem swp_last (x : Nat) (h : x < 2 ^ 32) : x / 65536 ||| (x * 65536 % 4294967296) = swp 16 65535 x := by
  unfold swp
  have h1 : x / 2 ^ 16 &&& 65535 = x / 65536 := by
    rw [show 65535 = 2 ^ 16 - 1 from rfl, Nat.and_two_pow_sub_one_eq_mod]
    omega
  have h2 : (x &&& 65535) * 2 ^ 16 % 2 ^ 32 = x * 65536 % 4294967296 := by
    rw [show 65535 = 2 ^ 16 - 1 from rfl, Nat.and_two_pow_sub_one_eq_mod]
    omega
  rw [h1, h2]
theorem swp_lt (k m x : Nat) (hm : m < 2 ^ 32) : swp k m x < 2 ^ 32 :=
  Nat.or_lt_two_pow (Nat.lt_of_le_of_lt Nat.and_le_right hm) (Nat.mod_lt _ (by decide))
/-- The code of n bits as it is read: the word turned round, its end. -/
theorem rc_of_word (n c : Nat) (hn : n ≤ 32) : rc 32 c / 2 ^ (32 - n) = rc n c := by
  have := rc_div n (32 - n) c
  rwa [show n + (32 - n) = 32 from by omega] at this
end TabMath

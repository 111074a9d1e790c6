/-
  More digits, noughts, a sign: what the reading of decimal numbers makes of them. No program, no dump.
-/
import Derived.Test.YtehlgnjbmdaakaaDoorClkTx3
import Derived.Test.YtehlgnjbmdaakaaDoorClkTx2
namespace Go.My.Txt
open NumMath

theorem V_le_pow (l : List UInt8) (h : allIn decs l = true) : V (dig 10) 10 l < 10 ^ l.length := by
  refine V_lt (dig 10) 10 l (fun c hc => ?_)
  have := (decs_iff c).1 (allIn_ok h c hc)
  unfold dig; rw [if_neg (by decide), if_pos this.2]; omega
theorem frac9_lt (F : List UInt8) (h : allIn decs F = true) : frac9 F < 1000000000 := by
  have h1 : allIn decs (F.take 9) = true := List.all_eq_true.2 fun c hc => allIn_ok h c (List.mem_of_mem_take hc)
  have h2 := V_le_pow _ h1
  have hl : (F.take 9).length ≤ 9 := by rw [List.length_take]; omega
  unfold frac9
  have := Nat.mul_lt_mul_of_pos_right h2 (Nat.pow_pos (n := 9 - (F.take 9).length) (show 0 < 10 by decide))
  rw [← Nat.pow_add, show (F.take 9).length + (9 - (F.take 9).length) = 9 by omega] at this
  exact this
theorem frac9_snoc (F : List UInt8) (c : UInt8) : frac9 F ≤ frac9 (F ++ [c]) := by
  unfold frac9
  by_cases h : 9 ≤ F.length
  · rw [List.take_append_of_le_length h]; exact Nat.le_refl _
  · rw [List.take_of_length_le (by omega), List.take_of_length_le (by simp; omega), V_snoc, List.length_append, List.length_singleton,
      show 9 - F.length = (9 - (F.length + 1)) + 1 by omega, Nat.pow_succ, Nat.mul_comm (10 ^ _) 10, ← Nat.mul_assoc]
    exact Nat.mul_le_mul_right _ (Nat.le_add_right _ _)
theorem frac9_noughts (F : List UInt8) : frac9 (F ++ [48, 48, 48]) = frac9 F := by
  rw [← fracV_eq, ← fracV_eq]
  congr 1
  unfold Lib.trimRightB
  rw [List.reverse_append]
  rfl
theorem more_noughts (F : List UInt8) : more (F ++ [48, 48, 48]) = more F := by
  rw [more_eq, more_eq]
  have : Lib.trimRightB (F ++ [48, 48, 48]) 48 = Lib.trimRightB F 48 := by
    unfold Lib.trimRightB
    rw [List.reverse_append]
    rfl
  rw [this]
theorem no_sign {W : List UInt8} (hne : W ≠ []) (hW : allIn decs W = true) (T : List UInt8) : neg (W ++ T) = false := by
  cases W with
  | nil => exact absurd rfl hne
  | cons c W =>
    have := (decs_iff c).1 (allIn_ok hW c (by simp))
    show ((some c) == some 45) = false
    have h2 : c ≠ 45 := fun e => by rw [e] at this; simp at this
    simpa using h2
theorem parse_parts {l W F : List UInt8} (hn : num l = W ++ 46 :: F) (hW : allIn decs W = true) (hw : W ≠ []) (hF : allIn decs F = true) (hf : F ≠ []) (hV : V (dig 10) 10 W ≤ 1000000000) :
    parseE l = 0 ∧ parseP l = if neg l then -((frac9 F / 1953125 + V (dig 10) 10 W * 512 : Nat) : Int) - (if (!more F && decide (frac9 F % 1953125 = 0)) then 0 else 1) else ((frac9 F / 1953125 + V (dig 10) 10 W * 512 : Nat) : Int) := by
  have h46 : ∀ c ∈ W, (c != 46) = true := fun c hc => by
    have := (decs_iff c).1 (allIn_ok hW c hc)
    have : c ≠ 46 := fun e => by rw [e] at this; simp at this
    simpa using this
  obtain ⟨a, b⟩ := take_digits W (46 :: F) h46 (.inr ⟨F, rfl⟩)
  have e1 : wholeL l = W := by unfold wholeL; rw [hn, a]
  have e2 : rest l = 46 :: F := by unfold rest; rw [hn, b]
  have e3 : fracL l = F := by unfold fracL; rw [e2]; rfl
  have h := final_E (l := l) (by rw [e1]; exact hw) (by rw [e1]; exact hW) (by rw [e3]; exact hf) (by rw [e3]; exact hF)
  rw [e1, e3] at h
  exact h.2 (by omega)
theorem parse_plain {W F : List UInt8} (hW : allIn decs W = true) (hw : W ≠ []) (hF : allIn decs F = true) (hf : F ≠ []) (hV : V (dig 10) 10 W ≤ 1000000000) :
    parseE (W ++ 46 :: F) = 0 ∧ parseP (W ++ 46 :: F) = ((frac9 F / 1953125 + V (dig 10) 10 W * 512 : Nat) : Int) := by
  have hs := no_sign hw hW (46 :: F)
  have h := parse_parts (l := W ++ 46 :: F) (by unfold num; rw [hs]; rfl) hW hw hF hf hV
  rw [hs] at h
  exact h
theorem parse_minus {W F : List UInt8} (hW : allIn decs W = true) (hw : W ≠ []) (hF : allIn decs F = true) (hf : F ≠ []) (hV : V (dig 10) 10 W ≤ 1000000000) :
    parseE (45 :: (W ++ 46 :: F)) = 0 ∧ (parseP (45 :: (W ++ 46 :: F)) = -((frac9 F / 1953125 + V (dig 10) 10 W * 512 : Nat) : Int) ∨ parseP (45 :: (W ++ 46 :: F)) = -((frac9 F / 1953125 + V (dig 10) 10 W * 512 : Nat) : Int) - 1) := by
  have h := parse_parts (l := 45 :: (W ++ 46 :: F)) rfl hW hw hF hf hV
  refine ⟨h.1, ?_⟩
  rw [h.2, show neg (45 :: (W ++ 46 :: F)) = true from rfl]
  cases (!more F && decide (frac9 F % 1953125 = 0))
  · right; rfl
  · left; simp
end Go.My.Txt

/-
  Stored blocks as bytes. Plain lists: no program, no dump.
-/
import Derived.Test.YtaeoedapaiapdaaBkRd
import Derived.Test.YtaeoedapaiapdaaInfSto
namespace InfMath
open BitMath CanMath TabMath WinMath

/-- As many stored blocks as the bytes need, as bytes. -/
def stos (b : List UInt8) (last : Bool) : List UInt8 :=
  if _h : 65535 < b.length then stored (b.take 65535) false ++ stos (b.drop 65535) last else stored b last
termination_by b.length
decreasing_by simp; omega
theorem stos_one (b : List UInt8) (last : Bool) (h : b.length ≤ 65535) : stos b last = stored b last := by rw [stos, dif_neg (by omega)]
theorem stos_more (b : List UInt8) (last : Bool) (h : 65535 < b.length) : stos b last = stored (b.take 65535) false ++ stos (b.drop 65535) last := by
  conv => lhs; rw [stos, dif_pos h]
theorem lows_of_byte (n : Nat) : lows 8 (UInt8.ofNat n).toNat = lows 8 n := by rw [UInt8.toNat_ofNat', lows_mod]
theorem stored_tail (c : List UInt8) (last : Bool) (h : c.length ≤ 65535) : bitsOf ((stored c last).drop 1) = lows 16 c.length ++ (lows 16 (65535 - c.length) ++ bitsOf c) := by
  have e : (stored c last).drop 1 = UInt8.ofNat c.length :: UInt8.ofNat (c.length / 256) :: UInt8.ofNat (255 - c.length % 256) :: UInt8.ofNat (255 - c.length / 256) :: c := rfl
  rw [e, bitsOf_cons, bitsOf_cons, bitsOf_cons, bitsOf_cons]
  simp only [lows_of_byte]
  have e1 : lows 16 c.length = lows 8 c.length ++ lows 8 (c.length / 256) := lows_add 8 8 c.length
  have e2 : lows 16 (65535 - c.length) = lows 8 (255 - c.length % 256) ++ lows 8 (255 - c.length / 256) := by
    rw [show lows 16 (65535 - c.length) = lows 8 (65535 - c.length) ++ lows 8 ((65535 - c.length) / 2 ^ 8) from lows_add 8 8 _]
    congr 1
    · rw [← lows_mod 8 (65535 - c.length), ← lows_mod 8 (255 - c.length % 256)]; congr 1; omega
    · congr 1; omega
  rw [e1, e2]
  simp only [List.append_assoc]
theorem stored_head (c : List UInt8) (last : Bool) : stored c last = (if last then 1 else 0) :: (stored c last).drop 1 := rfl
/-- A stored block's bits: up to the byte's end, and its bytes behind its first one. -/
theorem stb_tail (p : Nat) (c : List UInt8) (last : Bool) (h : c.length ≤ 65535) : stb p c last = lows 3 (bn 0 last) ++ List.replicate (gap p) false ++ bitsOf ((stored c last).drop 1) := by
  rw [stored_tail c last h]; unfold stb; simp only [List.append_assoc]
theorem stb_zero (p : Nat) (c : List UInt8) (last : Bool) (hp : p % 8 = 0) (h : c.length ≤ 65535) : stb p c last = bitsOf (stored c last) := by
  have hg : gap p = 5 := by unfold gap; omega
  rw [stb_tail p c last h, hg, stored_head c last, bitsOf_cons]
  cases last <;> rfl
theorem stbs_zero (last : Bool) (n p : Nat) (b : List UInt8) (hn : b.length ≤ n) (hp : p % 8 = 0) : stbs p b last = bitsOf (stos b last) := by
  induction n generalizing p b with
  | zero =>
    have h0 : b.length ≤ 65535 := Nat.le_trans hn (Nat.zero_le _)
    rw [stbs_one p b last h0, stos_one b last h0, stb_zero p b last hp h0]
  | succ n ih =>
    by_cases h : 65535 < b.length
    · have hxl : (b.take 65535).length ≤ 65535 := by rw [List.length_take]; exact Nat.min_le_left _ _
      have hyl : (b.drop 65535).length ≤ n := by rw [List.length_drop]; omega
      have hst : (stb p (b.take 65535) false).length % 8 = 0 := by rw [stb_zero p _ _ hp hxl, bitsOf_len]; omega
      rw [stbs_more p b last h, stos_more b last h, bitsOf_append, ih _ _ hyl (by omega), stb_zero p _ _ hp hxl]
    · have h0 : b.length ≤ 65535 := Nat.le_of_not_lt h
      rw [stbs_one p b last h0, stos_one b last h0, stb_zero p b last hp h0]
theorem stos_cons (b : List UInt8) (last : Bool) : ∃ x t, stos b last = x :: t ∧ (stos b last).drop 1 = t := by
  by_cases h : 65535 < b.length
  · rw [stos_more b last h]; exact ⟨_, _, rfl, rfl⟩
  · rw [stos_one b last (Nat.le_of_not_lt h)]; exact ⟨_, _, rfl, rfl⟩
/-- Wherever they begin: three bits and what fills the byte, then the bytes behind the first one. -/
theorem stbs_tail (p : Nat) (b : List UInt8) (last : Bool) : ∃ q : Bool, stbs p b last = lows 3 (bn 0 q) ++ List.replicate (gap p) false ++ bitsOf ((stos b last).drop 1) := by
  by_cases h : 65535 < b.length
  · have hxl : (b.take 65535).length ≤ 65535 := by rw [List.length_take]; exact Nat.min_le_left _ _
    refine ⟨false, ?_⟩
    rw [stbs_more p b last h, stos_more b last h]
    have hp2 : (p + (stb p (b.take 65535) false).length) % 8 = 0 := by rw [stb_len]; unfold gap; omega
    rw [stbs_zero last _ _ _ (Nat.le_refl _) hp2, stb_tail p _ _ hxl]
    have e : (stored (b.take 65535) false ++ stos (b.drop 65535) last).drop 1 = (stored (b.take 65535) false).drop 1 ++ stos (b.drop 65535) last := rfl
    rw [e, bitsOf_append]
    simp only [List.append_assoc]
  · have h0 : b.length ≤ 65535 := Nat.le_of_not_lt h
    exact ⟨last, by rw [stbs_one p b last h0, stos_one b last h0, stb_tail p b last h0]⟩
theorem pack_full (A : List Bool) (l : List UInt8) (h : A.length % 8 = 0) : pack (A ++ bitsOf l) = pack A ++ l := by
  have e : A = bitsOf (pack A) := by rw [bitsOf_pack, pad_full A h]
  conv => lhs; rw [e]
  rw [← bitsOf_append, pack_bitsOf]
theorem stos_len (n : Nat) (b : List UInt8) (last : Bool) (hn : b.length ≤ n) : (stos b last).length = b.length + 5 * max 1 ((b.length + 65534) / 65535) := by
  have h1 := stbs_zero last n 0 b hn rfl
  have h2 := stbs_len n 0 b last hn
  rw [h1, bitsOf_len] at h2
  have hg : gap 0 = 5 := rfl
  rw [hg] at h2
  omega
/-- The bytes behind k noughts. -/
theorem behind_zeros (k : Nat) (b : List UInt8) (last : Bool) (hk : k < 8) : ∃ h : List UInt8, h.length = (if 5 < k then 2 else 1) ∧ pack (List.replicate k false ++ stbs (List.replicate k false).length b last) = h ++ (stos b last).drop 1 ∧ (k = 0 → pack (List.replicate k false ++ stbs (List.replicate k false).length b last) = stos b last) := by
  rw [List.length_replicate]
  obtain ⟨q, hq⟩ := stbs_tail k b last
  have hl : (List.replicate k false ++ (lows 3 (bn 0 q) ++ List.replicate (gap k) false)).length = 8 * (if 5 < k then 2 else 1) := by
    simp only [List.length_append, List.length_replicate, lows_len]
    unfold gap
    split <;> omega
  refine ⟨pack (List.replicate k false ++ (lows 3 (bn 0 q) ++ List.replicate (gap k) false)), ?_, ?_, ?_⟩
  · rw [pack_len, hl]; omega
  · rw [hq, ← pack_full _ _ (by rw [hl]; omega)]
    simp only [List.append_assoc]
  · rintro rfl
    rw [stbs_zero last _ 0 b (Nat.le_refl _) rfl]
    simp only [List.replicate_zero, List.nil_append]
    exact pack_bitsOf _
end InfMath

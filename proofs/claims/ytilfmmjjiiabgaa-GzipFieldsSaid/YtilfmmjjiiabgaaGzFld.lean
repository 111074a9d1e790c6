/-
  gzip's header with all of its fields: what is read of any beginning of it. No program, no dump.
-/
import Derived.Test.YtilfmmjjiiabgaaGzMath
namespace GzMath
open Go.My.NumMath CrcMath

theorem num_bytes2 (v : Nat) : num false (bytesOf false 2 v) = v % 65536 := by
  have h : bytesOf false 2 v = [byteAt v 0, byteAt v 1] := rfl
  rw [h]
  simp [num, V, byteAt_toNat]
  omega
theorem zer_behind (l r : List UInt8) (h : ∀ c ∈ l, c ≠ 0) : zer (l ++ 0 :: r) = l.length := by
  induction l with
  | nil => simp [zer]
  | cons c l ih =>
    rw [List.cons_append]
    unfold zer
    rw [if_neg (h c (by simp)), ih (fun d hd => h d (by simp [hd]))]
    simp
/-- The header's bytes ahead of its own sum. -/
def fldS (ex nm rm : List UInt8) : List UInt8 := [31, 139, 8, 31, 5, 0, 0, 0, 2, 3] ++ (bytesOf false 2 ex.length ++ (ex ++ (nm ++ 0 :: (rm ++ [0]))))
theorem fldS_len (ex nm rm : List UInt8) : (fldS ex nm rm).length = 14 + ex.length + nm.length + rm.length := by
  unfold fldS
  simp [bytesOf_len]
  omega
section
variable {ex nm rm : List UInt8} (t r : List UInt8)
/-- All of it, and what follows. -/
def fldF (ex nm rm t r : List UInt8) : List UInt8 := [31, 139, 8, 31, 5, 0, 0, 0, 2, 3] ++ (bytesOf false 2 ex.length ++ (ex ++ (nm ++ 0 :: (rm ++ 0 :: (t ++ r)))))
theorem fldF_eq : fldF ex nm rm t r = fldS ex nm rm ++ (t ++ r) := by
  unfold fldF fldS
  simp
theorem drop_at {a b : List UInt8} {k : Nat} (h : k = a.length) : (a ++ b).drop k = b := by rw [h]; simp
theorem fldF_10 : (fldF ex nm rm t r).drop 10 = bytesOf false 2 ex.length ++ (ex ++ (nm ++ 0 :: (rm ++ 0 :: (t ++ r)))) := by
  unfold fldF; exact drop_at rfl
theorem fldF_12 : (fldF ex nm rm t r).drop 12 = ex ++ (nm ++ 0 :: (rm ++ 0 :: (t ++ r))) := by
  rw [show (12 : Nat) = 10 + 2 from rfl, ← List.drop_drop, fldF_10]; exact drop_at (by rw [bytesOf_len])
theorem fldF_nm : (fldF ex nm rm t r).drop (12 + ex.length) = nm ++ 0 :: (rm ++ 0 :: (t ++ r)) := by
  rw [← List.drop_drop, fldF_12]; exact drop_at rfl
theorem fldF_rm : (fldF ex nm rm t r).drop (12 + ex.length + nm.length + 1) = rm ++ 0 :: (t ++ r) := by
  rw [show 12 + ex.length + nm.length + 1 = (12 + ex.length) + (nm.length + 1) by omega, ← List.drop_drop, fldF_nm, ← List.drop_drop, drop_at rfl]; rfl
theorem fldF_t : (fldF ex nm rm t r).drop (fldS ex nm rm).length = t ++ r := by
  rw [fldF_eq]; exact drop_at rfl

theorem tx_of (n r2 : List UInt8) (k : Nat) (hz : ∀ c ∈ n, c ≠ 0) (hn : n.length ≤ 65535) (hk : k ≤ n.length + 1 + r2.length) :
    let b := (n ++ 0 :: r2).take k
    tx b = (if k ≤ n.length then 5 else 0) ∧ (n.length < k → zer b = n.length ∧ b.take (zer b) = n) := by
  intro b
  have hlen : b.length = k := by simp [b]; omega
  have hzer : zer b = min n.length k := by simp only [b]; rw [zer_take, zer_behind n r2 hz]
  refine ⟨?_, fun h => ⟨by rw [hzer]; omega, ?_⟩⟩
  · unfold tx
    by_cases h : k ≤ n.length
    · rw [if_neg (by omega), if_pos (by omega), if_pos h]
    · rw [if_pos (by omega), if_neg h]
  · rw [hzer]
    simp only [b]
    rw [List.take_take, show min (min n.length k) k = n.length by omega]
    simp
theorem getD_take (l : List UInt8) (k j : Nat) (h : j < k) : (l.take k).getD j 0 = l.getD j 0 := by
  simp [List.getD, List.getElem?_take, h]
/-- What is read of the first k bytes. -/
theorem rd_fields (hnm : ∀ c ∈ nm, c ≠ 0) (hrm : ∀ c ∈ rm, c ≠ 0) (hx : ex.length ≤ 100) (hn : nm.length ≤ 50) (hr : rm.length ≤ 50) (ht : t.length = 2) (k : Nat) (hk : k ≤ (fldF ex nm rm t r).length) :
    rd ((fldF ex nm rm t r).take k) = if k < (fldS ex nm rm).length + 2 then .bad 5 else if num false t ≠ (crc 0#32 (fldS ex nm rm)).toNat % 65536 then .bad 2 else .ok ⟨true, nm, 5, (fldS ex nm rm).length + 2⟩ := by
  have hS := fldS_len ex nm rm
  have hF : (fldF ex nm rm t r).length = (fldS ex nm rm).length + (2 + r.length) := by rw [fldF_eq]; simp [ht]
  have hl : ((fldF ex nm rm t r).take k).length = k := by simp; omega
  have hd : ∀ a, ((fldF ex nm rm t r).take k).drop a = ((fldF ex nm rm t r).drop a).take (k - a) := fun a => by rw [List.drop_take]
  have g0 : 1 ≤ k → (((fldF ex nm rm t r).take k).getD 0 0).toNat = 31 := fun h => by rw [getD_take _ _ _ (by omega)]; rfl
  have g1 : 2 ≤ k → (((fldF ex nm rm t r).take k).getD 1 0).toNat = 139 := fun h => by rw [getD_take _ _ _ (by omega)]; rfl
  have g2 : 3 ≤ k → (((fldF ex nm rm t r).take k).getD 2 0).toNat = 8 := fun h => by rw [getD_take _ _ _ (by omega)]; rfl
  have g3 : 4 ≤ k → (((fldF ex nm rm t r).take k).getD 3 0).toNat = 31 := fun h => by rw [getD_take _ _ _ (by omega)]; rfl
  have g4 : 10 ≤ k → num false ((((fldF ex nm rm t r).take k).drop 4).take 4) = 5 := fun h => by
    rw [hd, List.take_take, show min 4 (k - 4) = 4 by omega]; rfl
  have g10 : 12 ≤ k → num false ((((fldF ex nm rm t r).take k).drop 10).take 2) = ex.length := fun h => by
    rw [hd, List.take_take, show min 2 (k - 10) = 2 by omega, fldF_10, List.take_append_of_le_length (by rw [bytesOf_len]; omega), List.take_of_length_le (by rw [bytesOf_len]; omega), num_bytes2]
    omega
  have T1 := tx_of nm (rm ++ 0 :: (t ++ r)) (k - (12 + ex.length)) hnm (by omega) (by rw [fldF_eq] at hk; simp [ht] at hk ⊢; omega)
  rw [← fldF_nm, ← hd] at T1
  have T2 := tx_of rm (t ++ r) (k - (12 + ex.length + nm.length + 1)) hrm (by omega) (by rw [fldF_eq] at hk; simp [ht] at hk ⊢; omega)
  rw [← fldF_rm (ex := ex) (nm := nm) (rm := rm) t r, ← hd] at T2
  simp only at T1 T2
  have gs : (fldS ex nm rm).length + 2 ≤ k → num false ((((fldF ex nm rm t r).take k).drop (fldS ex nm rm).length).take 2) = num false t ∧ ((fldF ex nm rm t r).take k).take (fldS ex nm rm).length = fldS ex nm rm := fun h => by
    constructor
    · rw [hd, fldF_t, List.take_take, show min 2 (k - (fldS ex nm rm).length) = 2 by omega, List.take_append_of_le_length (by omega), List.take_of_length_le (by omega)]
    · rw [List.take_take, show min (fldS ex nm rm).length k = (fldS ex nm rm).length by omega, fldF_eq]; simp
  generalize (fldF ex nm rm t r).take k = b at *
  obtain ⟨S, hSe⟩ : ∃ S, S = (fldS ex nm rm).length := ⟨_, rfl⟩
  rw [← hSe] at hS gs hF ⊢
  unfold rd
  by_cases k1 : k < 1
  · rw [if_pos (by omega), if_pos (by omega)]
  rw [if_neg (by omega), if_neg (by rw [g0 (by omega)]; simp)]
  by_cases k2 : k < 2
  · rw [if_pos (by omega), if_pos (by omega)]
  rw [if_neg (by omega), if_neg (by rw [g1 (by omega)]; simp)]
  by_cases k3 : k < 3
  · rw [if_pos (by omega), if_pos (by omega)]
  rw [if_neg (by omega), if_neg (by rw [g2 (by omega)]; simp)]
  by_cases k4 : k < 4
  · rw [if_pos (by omega), if_pos (by omega)]
  rw [if_neg (by omega), if_neg (by rw [g3 (by omega)]; simp)]
  by_cases k8 : k < 8
  · rw [if_pos (by omega), if_pos (by omega)]
  rw [if_neg (by omega)]
  by_cases k10 : k < 10
  · rw [if_pos (by omega), if_pos (by omega)]
  rw [if_neg (by omega), g3 (by omega), g4 (by omega)]
  unfold gext
  rw [if_pos (by decide)]
  by_cases k12 : k < 12
  · rw [if_pos (by omega), if_pos (by omega)]
  rw [if_neg (by omega), g10 (by omega)]
  by_cases kx : k < 12 + ex.length
  · rw [if_pos (by omega), if_pos (by omega)]
  rw [if_neg (by omega)]
  unfold gnam
  rw [if_pos (by decide)]
  by_cases kn : k - (12 + ex.length) ≤ nm.length
  · rw [show 10 + 2 + ex.length = 12 + ex.length by omega, T1.1, if_pos kn, if_pos (by decide), if_pos (by omega)]
  rw [show 10 + 2 + ex.length = 12 + ex.length by omega, T1.1, if_neg kn, if_neg (by decide), (T1.2 (by omega)).2, (T1.2 (by omega)).1]
  unfold grem
  rw [if_pos (by decide)]
  by_cases kr : k - (12 + ex.length + nm.length + 1) ≤ rm.length
  · rw [T2.1, if_pos kr, if_pos (by decide), if_pos (by omega)]
  rw [T2.1, if_neg kr, if_neg (by decide), (T2.2 (by omega)).1, show 12 + ex.length + nm.length + 1 + rm.length + 1 = S by omega]
  unfold gsum
  rw [if_pos (by decide)]
  by_cases ks : k < S + 2
  · rw [if_pos (by omega), if_pos ks]
  rw [if_neg (by omega), if_neg ks, (gs (by omega)).1, (gs (by omega)).2]
end
theorem zer_all {l m : List UInt8} (h : l.length + m.length ≤ zer (l ++ m)) : (∀ c ∈ l, c ≠ 0) ∧ (∀ c ∈ m, c ≠ 0) := by
  have hall : ∀ c ∈ l ++ m, c ≠ 0 := fun c hc => by
    obtain ⟨i, hi, rfl⟩ := List.mem_iff_getElem.1 hc
    have := zer_at (l ++ m) i (by rw [List.length_append] at hi; omega)
    rw [List.getD, List.getElem?_eq_getElem hi] at this
    exact this
  exact ⟨fun c hc => hall c (List.mem_append_left _ hc), fun c hc => hall c (List.mem_append_right _ hc)⟩
theorem xor_by (s by_ : Nat) (h : by_ < 256) : ((s ^^^ by_) % 65536 = s % 65536) ↔ by_ = 0 := by
  rw [show (65536 : Nat) = 2 ^ 16 from rfl, Nat.xor_mod_two_pow, Nat.mod_eq_of_lt (show by_ < 2 ^ 16 by omega)]
  constructor
  · intro e
    have := congrArg (fun z => (s % 2 ^ 16) ^^^ z) e
    simp only [← Nat.xor_assoc, Nat.xor_self, Nat.zero_xor] at this
    exact this
  · rintro rfl; simp
/-- A round's measure (by itself: in the round's own context the kernel runs out of memory). -/
theorem meas_lt (n k : Nat) (h : k < n) : n - ((k : Int) + 1).toNat < n - k := by omega
end GzMath

/-
  gzip's headers as plain lists: what is read of one, what is put. No program, no dump.
-/
import Derived.Test.YtilfmmjjiiabgaaNumMath
import Derived.Test.YtilfmmjjiiabgaaCrcMath
namespace GzMath
open Go.My.NumMath CrcMath

/-- How many bytes stand ahead of the first byte 0. -/
def zer : List UInt8 → Nat
  | [] => 0
  | c :: l => if c = 0 then 0 else zer l + 1
theorem zer_le : ∀ l : List UInt8, zer l ≤ l.length
  | [] => Nat.le_refl _
  | c :: l => by
    unfold zer
    split
    · omega
    · have := zer_le l
      simp only [List.length_cons]
      omega
theorem zer_at : ∀ (l : List UInt8) (k : Nat), k < zer l → l.getD k 0 ≠ 0
  | [], k, h => by simp [zer] at h
  | c :: l, k, h => by
    unfold zer at h
    split at h
    · omega
    · next hc =>
      cases k with
      | zero => simpa using hc
      | succ k => simpa using zer_at l k (by omega)
theorem zer_zero : ∀ (l : List UInt8), zer l < l.length → l.getD (zer l) 0 = 0
  | [], h => by simp [zer] at h
  | c :: l, h => by
    unfold zer at h ⊢
    split
    · next hc => simpa using hc
    · next hc =>
      rw [if_neg hc] at h
      simpa using zer_zero l (by simpa using h)
/-- The first place with a byte 0. -/
theorem zer_first {l : List UInt8} {k : Nat} (h : k < l.length) (h0 : l.getD k 0 = 0) (hb : ∀ j, j < k → l.getD j 0 ≠ 0) : zer l = k := by
  by_cases h1 : zer l < k
  · exact absurd (zer_zero l (by omega)) (hb _ h1)
  · by_cases h2 : k < zer l
    · exact absurd h0 (zer_at l k h2)
    · omega
theorem zer_none {l : List UInt8} (hb : ∀ j, j < l.length → l.getD j 0 ≠ 0) : zer l = l.length := by
  have := zer_le l
  by_cases h : zer l < l.length
  · exact absurd (zer_zero l h) (hb _ h)
  · omega
theorem zer_take (l : List UInt8) (m : Nat) : zer (l.take m) = min (zer l) m := by
  induction l generalizing m with
  | nil => simp [zer]
  | cons c l ih =>
    cases m with
    | zero => simp [zer]
    | succ m =>
      rw [List.take_succ_cons]
      unfold zer
      split
      · omega
      · rw [ih]; omega

/-- How a text ends, where it is read from the beginning of l on: 0 well, 5 more is wanted, 2 it is too long. -/
def tx (l : List UInt8) : Nat := if zer l < l.length ∧ zer l < 65536 then 0 else if l.length ≤ 65535 then 5 else 2
theorem tx_cases (l : List UInt8) : (tx l = 0 ∧ zer l < l.length ∧ zer l < 65536) ∨ (tx l = 5 ∧ zer l = l.length ∧ l.length ≤ 65535) ∨ (tx l = 2 ∧ 65536 ≤ zer l ∧ 65536 ≤ l.length) := by
  have := zer_le l
  unfold tx
  by_cases h : zer l < l.length ∧ zer l < 65536
  · rw [if_pos h]; exact .inl ⟨rfl, h⟩
  · rw [if_neg h]
    by_cases h2 : l.length ≤ 65535
    · rw [if_pos h2]; exact .inr (.inl ⟨rfl, by omega, h2⟩)
    · rw [if_neg h2]; exact .inr (.inr ⟨rfl, by omega, by omega⟩)

/-- A header that was read: its flag and name, its time's number, how many bytes it has. -/
structure Hd where
  named : Bool
  name : List UInt8
  time : Nat
  n : Nat
deriving DecidableEq
/-- An error, or a header. -/
inductive Got where
  | bad (c : Nat)
  | ok (h : Hd)
deriving DecidableEq

/-- The head's own sum. -/
def gsum (b : List UInt8) (fl at_ : Nat) (h : Hd) : Got :=
  if fl / 2 % 2 = 1 then
    if b.length < at_ + 2 then .bad 5
    else if num false ((b.drop at_).take 2) ≠ (crc 0#32 (b.take at_)).toNat % 65536 then .bad 2
    else .ok { h with n := at_ + 2 }
  else .ok { h with n := at_ }
/-- The remark. -/
def grem (b : List UInt8) (fl at_ : Nat) (h : Hd) : Got :=
  if fl / 16 % 2 = 1 then
    if tx (b.drop at_) ≠ 0 then .bad (tx (b.drop at_)) else gsum b fl (at_ + zer (b.drop at_) + 1) h
  else gsum b fl at_ h
/-- The name. -/
def gnam (b : List UInt8) (fl at_ : Nat) (h : Hd) : Got :=
  if fl / 8 % 2 = 1 then
    if tx (b.drop at_) ≠ 0 then .bad (tx (b.drop at_)) else grem b fl (at_ + zer (b.drop at_) + 1) { h with named := true, name := (b.drop at_).take (zer (b.drop at_)) }
  else grem b fl at_ h
/-- The field. -/
def gext (b : List UInt8) (fl at_ : Nat) (h : Hd) : Got :=
  if fl / 4 % 2 = 1 then
    if b.length < at_ + 2 then .bad 5
    else if b.length < at_ + 2 + num false ((b.drop at_).take 2) then .bad 5
    else gnam b fl (at_ + 2 + num false ((b.drop at_).take 2)) h
  else gnam b fl at_ h
/-- A byte of the first three. -/
def mg (k : Nat) : Nat := if k = 0 then 31 else if k = 1 then 139 else 8
/-- What is read at the beginning of b. -/
def rd (b : List UInt8) : Got :=
  if b.length < 1 then .bad 5 else if (b.getD 0 0).toNat ≠ 31 then .bad 2
  else if b.length < 2 then .bad 5 else if (b.getD 1 0).toNat ≠ 139 then .bad 2
  else if b.length < 3 then .bad 5 else if (b.getD 2 0).toNat ≠ 8 then .bad 2
  else if b.length < 4 then .bad 5 else if 32 ≤ (b.getD 3 0).toNat then .bad 2
  else if b.length < 8 then .bad 5 else if b.length < 10 then .bad 5
  else gext b (b.getD 3 0).toNat 10 ⟨false, [], num false ((b.drop 4).take 4), 0⟩
/-- The first k bytes stand as they must. -/
def Mag (b : List UInt8) (k : Nat) : Prop := k ≤ b.length ∧ ∀ j, j < k → (b.getD j 0).toNat = mg j
theorem Mag.zero (b : List UInt8) : Mag b 0 := ⟨Nat.zero_le _, fun _ h => by omega⟩
theorem Mag.succ {b : List UInt8} {k : Nat} (h : Mag b k) (hl : k + 1 ≤ b.length) (he : (b.getD k 0).toNat = mg k) : Mag b (k + 1) :=
  ⟨hl, fun j hj => by
    by_cases hk : j = k
    · rw [hk]; exact he
    · exact h.2 j (by omega)⟩
theorem rd_short {b : List UInt8} {k : Nat} (h : Mag b k) (hk : k ≤ 2) (hl : b.length = k) : rd b = .bad 5 := by
  unfold rd
  have : k = 0 ∨ k = 1 ∨ k = 2 := by omega
  rcases this with rfl | rfl | rfl
  · rw [if_pos (by omega)]
  · have h0 := h.2 0 (by omega)
    rw [show mg 0 = 31 from rfl] at h0
    rw [if_neg (by omega), if_neg (by omega), if_pos (by omega)]
  · have h0 := h.2 0 (by omega)
    have h1 := h.2 1 (by omega)
    rw [show mg 0 = 31 from rfl] at h0
    rw [show mg 1 = 139 from rfl] at h1
    rw [if_neg (by omega), if_neg (by omega), if_neg (by omega), if_neg (by omega), if_pos (by omega)]
theorem rd_wrong {b : List UInt8} {k : Nat} (h : Mag b k) (hk : k ≤ 2) (hl : k < b.length) (he : (b.getD k 0).toNat ≠ mg k) : rd b = .bad 2 := by
  unfold rd
  have : k = 0 ∨ k = 1 ∨ k = 2 := by omega
  rcases this with rfl | rfl | rfl
  · rw [show mg 0 = 31 from rfl] at he
    rw [if_neg (by omega), if_pos (by omega)]
  · have h0 := h.2 0 (by omega)
    rw [show mg 0 = 31 from rfl] at h0
    rw [show mg 1 = 139 from rfl] at he
    rw [if_neg (by omega), if_neg (by omega), if_neg (by omega), if_pos (by omega)]
  · have h0 := h.2 0 (by omega)
    have h1 := h.2 1 (by omega)
    rw [show mg 0 = 31 from rfl] at h0
    rw [show mg 1 = 139 from rfl] at h1
    rw [show mg 2 = 8 from rfl] at he
    rw [if_neg (by omega), if_neg (by omega), if_neg (by omega), if_neg (by omega), if_neg (by omega), if_pos (by omega)]
theorem rd_goes {b : List UInt8} (h : Mag b 3) : rd b =
    if b.length < 4 then .bad 5 else if 32 ≤ (b.getD 3 0).toNat then .bad 2
    else if b.length < 8 then .bad 5 else if b.length < 10 then .bad 5
    else gext b (b.getD 3 0).toNat 10 ⟨false, [], num false ((b.drop 4).take 4), 0⟩ := by
  have h0 := h.2 0 (by omega)
  have h1 := h.2 1 (by omega)
  have h2 := h.2 2 (by omega)
  have := h.1
  rw [show mg 0 = 31 from rfl] at h0
  rw [show mg 1 = 139 from rfl] at h1
  rw [show mg 2 = 8 from rfl] at h2
  rw [rd, if_neg (by omega), if_neg (by omega), if_neg (by omega), if_neg (by omega), if_neg (by omega), if_neg (by omega)]

/-! ### flags -/
theorem num_one (b : List UInt8) (k : Nat) (h : k < b.length) : num false ((b.drop k).take 1) = (b.getD k 0).toNat := by
  rw [List.drop_eq_getElem_cons h, List.take_succ_cons, List.take_zero]
  simp [num, V, List.getD, List.getElem?_eq_getElem h]
end GzMath

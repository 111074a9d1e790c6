/-
  Rows of bits, the lowest first: numbers as rows, bytes as rows, rows as bytes. Plain lists: no program, no dump.
-/
namespace BitMath

def lows : Nat → Nat → List Bool
  | 0, _ => []
  | n + 1, v => (v % 2 == 1) :: lows n (v / 2)
def num : List Bool → Nat
  | [] => 0
  | b :: t => b.toNat + 2 * num t
def bitsOf (l : List UInt8) : List Bool := l.flatMap fun b => lows 8 b.toNat

theorem lows_len (n v : Nat) : (lows n v).length = n := by
  induction n generalizing v with
  | zero => rfl
  | succ n ih => simp [lows, ih]
theorem num_lt (l : List Bool) : num l < 2 ^ l.length := by
  induction l with
  | nil => simp [num]
  | cons b t ih => rw [num, List.length_cons, Nat.pow_succ]; cases b <;> simp <;> omega
theorem bit_nat (v : Nat) : (v % 2 == 1).toNat = v % 2 := by
  rcases Nat.mod_two_eq_zero_or_one v with h | h <;> simp [h]
theorem num_lows (n v : Nat) : num (lows n v) = v % 2 ^ n := by
  induction n generalizing v with
  | zero => simp [lows, num, Nat.mod_one]
  | succ n ih =>
    rw [lows, num, ih, bit_nat, Nat.pow_succ, Nat.mul_comm (2 ^ n) 2, Nat.mod_mul]
theorem lows_num (l : List Bool) : lows l.length (num l) = l := by
  induction l with
  | nil => rfl
  | cons b t ih =>
    rw [List.length_cons, lows, num]
    have h1 : (b.toNat + 2 * num t) / 2 = num t := by cases b <;> simp <;> omega
    have h2 : ((b.toNat + 2 * num t) % 2 == 1) = b := by cases b <;> simp <;> omega
    rw [h1, h2, ih]
theorem lows_num_of (n : Nat) (l : List Bool) (h : l.length = n) : lows n (num l) = l := by subst h; exact lows_num l
theorem num_append (a b : List Bool) : num (a ++ b) = num a + 2 ^ a.length * num b := by
  induction a with
  | nil => simp [num]
  | cons x t ih =>
    rw [List.cons_append, num, num, ih, List.length_cons, Nat.pow_succ, Nat.mul_add, Nat.mul_comm (2 ^ t.length) 2, Nat.mul_assoc]
    omega
theorem lows_add (a b v : Nat) : lows (a + b) v = lows a v ++ lows b (v / 2 ^ a) := by
  induction a generalizing v with
  | zero => simp [lows]
  | succ a ih =>
    rw [show a + 1 + b = (a + b) + 1 from by omega, lows, lows, ih, List.cons_append, Nat.div_div_eq_div_mul, Nat.pow_succ, Nat.mul_comm (2 ^ a) 2]
theorem lows_mod (n v : Nat) : lows n (v % 2 ^ n) = lows n v := by
  rw [← num_lows, lows_num_of n _ (lows_len n v)]
theorem lows_eq_of_mod {n a b : Nat} (h : a % 2 ^ n = b % 2 ^ n) : lows n a = lows n b := by
  rw [← lows_mod n a, h, lows_mod]
theorem lows_zero (n : Nat) : lows n 0 = List.replicate n false := by
  induction n with
  | zero => rfl
  | succ n ih => rw [lows, List.replicate_succ]; simp [ih]
theorem num_zero (n : Nat) : num (List.replicate n false) = 0 := by
  rw [← lows_zero, num_lows]; simp
/-- bits put behind others. -/
theorem lows_join (c n r x : Nat) (h : r < 2 ^ c) : lows (c + n) (r + 2 ^ c * x) = lows c r ++ lows n x := by
  rw [lows_add]
  have hp : 0 < 2 ^ c := Nat.two_pow_pos c
  have h1 : (r + 2 ^ c * x) / 2 ^ c = x := by
    rw [Nat.add_mul_div_left _ _ hp, Nat.div_eq_of_lt h, Nat.zero_add]
  rw [h1, lows_eq_of_mod (a := r + 2 ^ c * x) (b := r) (by rw [Nat.add_mul_mod_self_left])]
theorem or_join (c r x : Nat) (h : r < 2 ^ c) : r ||| (x * 2 ^ c) = r + 2 ^ c * x := by
  rw [Nat.mul_comm x, Nat.add_comm, Nat.or_comm]
  exact (Nat.two_pow_add_eq_or_of_lt h x).symm
theorem lows_byte (c r : Nat) (h : 8 ≤ c) : lows c r = lows 8 (r % 256) ++ lows (c - 8) (r / 256) := by
  rw [show c = 8 + (c - 8) from by omega, lows_add, show 8 + (c - 8) - 8 = c - 8 from by omega]
  rw [show (256 : Nat) = 2 ^ 8 from rfl, lows_mod]
theorem lows_snoc (n v : Nat) : lows (n + 1) v = lows n v ++ [v / 2 ^ n % 2 == 1] := by
  rw [lows_add]; rfl

theorem bitsOf_append (a b : List UInt8) : bitsOf (a ++ b) = bitsOf a ++ bitsOf b := by simp [bitsOf]
theorem bitsOf_nil : bitsOf [] = [] := rfl
theorem bitsOf_cons (b : UInt8) (t : List UInt8) : bitsOf (b :: t) = lows 8 b.toNat ++ bitsOf t := rfl
theorem bitsOf_one (b : UInt8) : bitsOf [b] = lows 8 b.toNat := by simp [bitsOf]
theorem bitsOf_len (l : List UInt8) : (bitsOf l).length = 8 * l.length := by
  induction l with
  | nil => rfl
  | cons b t ih => rw [bitsOf_cons, List.length_append, ih, lows_len, List.length_cons]; omega
theorem bitsOf_drop (l : List UInt8) (j : Nat) : (bitsOf l).drop (8 * j) = bitsOf (l.drop j) := by
  induction j generalizing l with
  | zero => simp
  | succ j ih =>
    cases l with
    | nil => simp [bitsOf]
    | cons b t =>
      rw [bitsOf_cons, List.drop_succ_cons, ← ih t, show 8 * (j + 1) = (lows 8 b.toNat).length + 8 * j from by rw [lows_len]; omega, List.drop_append]
      simp
theorem bitsOf_get (l : List UInt8) (i : Nat) (h : i < 8 * l.length) : (bitsOf l)[i]? = some ((l[i / 8]'(by omega)).toNat / 2 ^ (i % 8) % 2 == 1) := by
  have h8 : i / 8 < l.length := by omega
  have e : (bitsOf l)[i]? = ((bitsOf l).drop (8 * (i / 8)))[i % 8]? := by
    rw [List.getElem?_drop]; congr 1; omega
  rw [e, bitsOf_drop, List.drop_eq_getElem_cons h8, bitsOf_cons]
  have hm : i % 8 < 8 := Nat.mod_lt _ (by omega)
  rw [List.getElem?_append_left (by rw [lows_len]; exact hm)]
  generalize i % 8 = m at *
  generalize l[i / 8] = c
  have hs : lows 8 c.toNat = lows m c.toNat ++ (c.toNat / 2 ^ m % 2 == 1) :: lows (7 - m) (c.toNat / 2 ^ m / 2) := by
    rw [show 8 = m + (7 - m + 1) from by omega, lows_add, lows]
  rw [hs, List.getElem?_append_right (by rw [lows_len]; omega), lows_len]
  simp

/-- Rows as bytes, the last one filled up. -/
def pack (bs : List Bool) : List UInt8 := (List.range ((bs.length + 7) / 8)).map fun j => UInt8.ofNat (num ((bs.drop (8 * j)).take 8))
theorem pack_len (bs : List Bool) : (pack bs).length = (bs.length + 7) / 8 := by simp [pack]
theorem num_small (l : List Bool) (h : l.length ≤ 8) : num l < 256 :=
  Nat.lt_of_lt_of_le (num_lt l) (by rw [show (256 : Nat) = 2 ^ 8 from rfl]; exact Nat.pow_le_pow_right (by omega) h)
theorem ofNat_num (l : List Bool) (h : l.length ≤ 8) : (UInt8.ofNat (num l)).toNat = num l := by
  rw [UInt8.toNat_ofNat']; exact Nat.mod_eq_of_lt (num_small l h)
theorem pack_get (bs : List Bool) (j : Nat) (h : j < (bs.length + 7) / 8) : (pack bs)[j]'(by rw [pack_len]; exact h) = UInt8.ofNat (num ((bs.drop (8 * j)).take 8)) := by simp [pack]
theorem take_lows (b : UInt8) (t : List Bool) : num ((lows 8 b.toNat ++ t).take 8) = b.toNat := by
  rw [List.take_append_of_le_length (by rw [lows_len]; omega), List.take_of_length_le (by rw [lows_len]; omega), num_lows]
  have := b.toNat_lt
  omega
/-- Bytes and fewer than eight bits behind them. -/
theorem pack_bytes (l : List UInt8) (t : List Bool) (ht : t.length < 8) : pack (bitsOf l ++ t) = l ++ (if t.length = 0 then [] else [UInt8.ofNat (num t)]) := by
  have hlen : (bitsOf l ++ t).length = 8 * l.length + t.length := by rw [List.length_append, bitsOf_len]
  apply List.ext_getElem
  · rw [pack_len, hlen]; split <;> simp <;> omega
  · intro j h1 h2
    rw [pack_len, hlen] at h1
    rw [pack_get _ _ (by rw [hlen]; exact h1)]
    by_cases hj : j < l.length
    · rw [List.getElem_append_left hj]
      rw [List.drop_append_of_le_length (by rw [bitsOf_len]; omega), bitsOf_drop, List.drop_eq_getElem_cons hj, bitsOf_cons, List.append_assoc, take_lows]
      simp
    · have hje : j = l.length := by omega
      subst hje
      have h0 : t.length ≠ 0 := by omega
      rw [List.getElem_append_right (by omega)]
      simp only [if_neg h0, Nat.sub_self, List.getElem_cons_zero]
      rw [show 8 * l.length = (bitsOf l).length + 0 from by rw [bitsOf_len]; rfl, List.drop_append, List.take_of_length_le (by simp; omega)]
      simp
theorem pack_bitsOf (l : List UInt8) : pack (bitsOf l) = l := by
  have := pack_bytes l [] (by simp)
  simpa using this

/-- Filled up to a byte's end. -/
def pad (bs : List Bool) : List Bool := bs ++ List.replicate ((8 - bs.length % 8) % 8) false
theorem pad_len (bs : List Bool) : (pad bs).length = (bs.length + 7) / 8 * 8 := by
  unfold pad; simp; omega
theorem pad_full (bs : List Bool) (h : bs.length % 8 = 0) : pad bs = bs := by unfold pad; rw [h]; simp
theorem pad_bytes (l : List UInt8) (t : List Bool) (ht : t.length < 8) : pad (bitsOf l ++ t) = bitsOf (pack (bitsOf l ++ t)) := by
  rw [pack_bytes l t ht, bitsOf_append]
  unfold pad
  rw [List.append_assoc, List.length_append, bitsOf_len]
  congr 1
  split
  · have : t = [] := List.length_eq_zero_iff.1 (by assumption)
    subst this
    simp [bitsOf]
  · rw [bitsOf_one, ofNat_num t (by omega), show (8 * l.length + t.length) % 8 = t.length from by omega, Nat.mod_eq_of_lt (by omega)]
    conv => rhs; rw [show 8 = t.length + (8 - t.length) from by omega]
    rw [lows_add, lows_num, Nat.div_eq_of_lt (num_lt t), lows_zero]
/-- Every row is bytes and fewer than eight bits behind them. -/
theorem split_bytes (bs : List Bool) : ∃ (l : List UInt8) (t : List Bool), bs = bitsOf l ++ t ∧ t.length < 8 := by
  generalize hn : bs.length = n
  induction n using Nat.strongRecOn generalizing bs with
  | ind n ih =>
    by_cases h : bs.length < 8
    · exact ⟨[], bs, rfl, h⟩
    · obtain ⟨l, t, he, ht⟩ := ih (bs.drop 8).length (by simp; omega) (bs.drop 8) rfl
      refine ⟨UInt8.ofNat (num (bs.take 8)) :: l, t, ?_, ht⟩
      rw [bitsOf_cons, ofNat_num _ (by simp; omega), lows_num_of 8 _ (by simp; omega), List.append_assoc, ← he, List.take_append_drop]
theorem bitsOf_pack (bs : List Bool) : bitsOf (pack bs) = pad bs := by
  obtain ⟨l, t, rfl, ht⟩ := split_bytes bs
  exact (pad_bytes l t ht).symm

/-- The bits as a text. -/
def chB (b : Bool) : UInt8 := if b then 49 else 48
def txt (bs : List Bool) : ByteArray := ⟨(bs.map chB).toArray⟩
theorem txt_len (bs : List Bool) : (txt bs).size = bs.length := by
  show (bs.map chB).toArray.size = _
  simp
theorem txt_append (a b : List Bool) : txt a ++ txt b = txt (a ++ b) := by
  unfold txt
  apply ByteArray.ext
  simp [ByteArray.data_append]
theorem chB_inj (a b : Bool) (h : chB a = chB b) : a = b := by
  cases a <;> cases b <;> first | rfl | (revert h; decide)
theorem txt_get (bs : List Bool) (i : Nat) (h : i < (txt bs).size) : (txt bs)[i] = chB (bs[i]'(by rwa [txt_len] at h)) := by
  have e : (bs.map chB).toArray[i]'(by simpa [txt_len] using h) = chB (bs[i]'(by rwa [txt_len] at h)) := by simp
  exact e
theorem chB_nat (b : Bool) : (chB b).toNat = 48 + b.toNat := by cases b <;> rfl

/-- The number of a row turned round grows at its low end. -/
theorem num_turn (n v : Nat) : num (lows (n + 1) v).reverse = (v / 2 ^ n % 2) + 2 * num (lows n v).reverse := by
  rw [lows_snoc, List.reverse_append]
  simp [num, bit_nat]
theorem lows_turn (n v : Nat) : lows n (num (lows n v).reverse) = (lows n v).reverse := lows_num_of n _ (by simp [lows_len])
theorem num_snoc (l : List Bool) (b : Bool) : num (l ++ [b]) = num l + 2 ^ l.length * b.toNat := by
  rw [num_append]; simp [num]
end BitMath

import Derived.Test.YtilfmmjjiiabgaaGreatDoorMgAa

section
/-
  CRC-32 as linear algebra over bits: plain facts about lists and 32-bit rows. No Go here.
-/
namespace CrcMath

def cstep (r : BitVec 32) : BitVec 32 := if r.getLsbD 0 then (r >>> 1) ^^^ 3988292384#32 else r >>> 1

def cstepN : Nat → BitVec 32 → BitVec 32
  | 0, r => r
  | n + 1, r => cstepN n (cstep r)

def ext (b : UInt8) : BitVec 32 := b.toBitVec.setWidth 32

def byteCstep (r : BitVec 32) (b : UInt8) : BitVec 32 := cstepN 8 (r ^^^ ext b)

def reg (r : BitVec 32) (l : List UInt8) : BitVec 32 := l.foldl byteCstep r

def ones : BitVec 32 := 4294967295#32

def crc (c : BitVec 32) (l : List UInt8) : BitVec 32 := reg (c ^^^ ones) l ^^^ ones

theorem xx (a b : BitVec 32) : (a ^^^ b) ^^^ b = a := by rw [BitVec.xor_assoc, BitVec.xor_self, BitVec.xor_zero]

theorem cstep_xor (a b : BitVec 32) : cstep (a ^^^ b) = cstep a ^^^ cstep b := by
  unfold cstep
  rw [BitVec.getLsbD_xor]
  cases a.getLsbD 0 <;> cases b.getLsbD 0 <;> simp [BitVec.ushiftRight_xor_distrib, BitVec.xor_assoc]
  · rw [BitVec.xor_comm (b >>> 1)]
  · rw [BitVec.xor_comm 3988292384#32, BitVec.xor_assoc, BitVec.xor_self, BitVec.xor_zero]

theorem cstepN_xor (n : Nat) : ∀ a b : BitVec 32, cstepN n (a ^^^ b) = cstepN n a ^^^ cstepN n b := by
  induction n with
  | zero => intros; rfl
  | succ n ih => intro a b; simp only [cstepN, cstep_xor, ih]

theorem cstepN_add (m n : Nat) : ∀ r, cstepN (m + n) r = cstepN n (cstepN m r) := by
  induction m with
  | zero => intro r; simp [cstepN]
  | succ m ih => intro r; rw [Nat.succ_add]; simp only [cstepN, ih]

theorem cstepN_succ' (n : Nat) (r : BitVec 32) : cstepN (n + 1) r = cstep (cstepN n r) := by
  rw [cstepN_add]; rfl

theorem cstep_eq_zero {r : BitVec 32} (h : cstep r = 0#32) : r = 0#32 := by
  unfold cstep at h
  split at h
  · have h31 := congrArg (fun x => x.getLsbD 31) h
    simp at h31
  · rename_i h0
    apply BitVec.eq_of_getLsbD_eq
    intro i hi
    cases i with
    | zero => simpa using h0
    | succ i =>
      have := congrArg (fun x => x.getLsbD i) h
      simp at this
      simpa [Nat.add_comm] using this

theorem cstepN_eq_zero (n : Nat) : ∀ {r : BitVec 32}, cstepN n r = 0#32 → r = 0#32 := by
  induction n with
  | zero => intro r h; exact h
  | succ n ih => intro r h; exact cstep_eq_zero (ih h)

/-! ### lists of equal length, xor-ed -/
def xors : List UInt8 → List UInt8 → List UInt8
  | a :: l, b :: m => (a ^^^ b) :: xors l m
  | _, _ => []

theorem ext_xor (a b : UInt8) : ext (a ^^^ b) = ext a ^^^ ext b := by
  unfold ext; simp [BitVec.setWidth_xor]

theorem ext_zero : ext 0 = 0#32 := by decide

theorem byteStep_xor (r s : BitVec 32) (a b : UInt8) : byteCstep (r ^^^ s) (a ^^^ b) = byteCstep r a ^^^ byteCstep s b := by
  unfold byteCstep
  rw [ext_xor, ← cstepN_xor]
  congr 1
  ac_rfl

theorem reg_xors : ∀ (l m : List UInt8), l.length = m.length → ∀ r s, reg (r ^^^ s) (xors l m) = reg r l ^^^ reg s m := by
  intro l
  induction l with
  | nil => intro m h r s; cases m with
    | nil => rfl
    | cons => simp at h
  | cons a l ih => intro m h r s; cases m with
    | nil => simp at h
    | cons b m =>
      simp only [xors, reg, List.foldl_cons] at *
      rw [byteStep_xor]
      exact ih m (by simpa using h) _ _

theorem reg_append (r : BitVec 32) (l m : List UInt8) : reg r (l ++ m) = reg (reg r l) m := by
  simp [reg, List.foldl_append]

theorem reg_zeros (n : Nat) : ∀ r, reg r (List.replicate n 0) = cstepN (8 * n) r := by
  induction n with
  | zero => intro r; rfl
  | succ n ih =>
    intro r
    rw [List.replicate_succ]
    show reg (byteCstep r 0) _ = _
    rw [ih, show 8 * (n + 1) = 8 + 8 * n from by omega, cstepN_add]
    simp [byteCstep, ext_zero]

theorem xors_zeros (l : List UInt8) : xors (List.replicate l.length 0) l = l := by
  induction l with
  | nil => rfl
  | cons a l ih => simp only [List.length_cons, List.replicate_succ, xors, ih]; simp

/-- What stands ahead goes through as so many noughts would. -/
theorem reg_split (r s : BitVec 32) (m : List UInt8) : reg (r ^^^ s) m = cstepN (8 * m.length) r ^^^ reg s m := by
  have := reg_xors (List.replicate m.length 0) m (by simp) r s
  rwa [xors_zeros, reg_zeros] at this

/-! ### tables: what a byte leaves behind so many noughts -/
/-- Eight steps of a row part: what is beyond the lowest byte moves down, the lowest byte goes by the first table. -/
theorem shift_step (k : Nat) : ∀ (x : BitVec 32), (∀ i, i < k → x.getLsbD i = false) → cstepN k x = x >>> k := by
  induction k with
  | zero => intro x _; simp [cstepN]
  | succ k ih =>
    intro x h
    have h0 : x.getLsbD 0 = false := h 0 (by omega)
    have hs : cstep x = x >>> 1 := by unfold cstep; rw [h0]; rfl
    simp only [cstepN]
    rw [hs, ih (x >>> 1) (fun i hi => by rw [BitVec.getLsbD_ushiftRight, Nat.add_comm]; exact h (i + 1) (by omega)), ← BitVec.shiftRight_add, Nat.add_comm]

theorem cstepN_8 (x : BitVec 32) : cstepN 8 x = x >>> 8 ^^^ cstepN 8 ((x.setWidth 8).setWidth 32) := by
  have hx : x = ((x >>> 8) <<< 8) ^^^ ((x.setWidth 8).setWidth 32) := by
    apply BitVec.eq_of_getLsbD_eq
    intro i hi
    simp only [BitVec.getLsbD_xor, BitVec.getLsbD_shiftLeft, BitVec.getLsbD_ushiftRight, BitVec.getLsbD_setWidth]
    by_cases h : i < 8
    · simp [h, hi]
    · simp [h, hi]; rw [← BitVec.getLsbD_eq_getElem]; congr 1; omega
  have hhi : cstepN 8 ((x >>> 8) <<< 8) = x >>> 8 := by
    rw [shift_step 8 _ (fun i hi => by simp [hi])]
    apply BitVec.eq_of_getLsbD_eq
    intro i hi
    simp only [BitVec.getLsbD_shiftLeft, BitVec.getLsbD_ushiftRight]
    by_cases h : i + 8 < 32
    · simp [Nat.add_comm, h]
    · have : x.getLsbD (8 + i) = false := BitVec.getLsbD_of_ge _ _ (by omega)
      simp [this]
  conv => lhs; rw [hx]
  rw [cstepN_xor, hhi]

/-- A byte at a higher place goes by as many noughts fewer. -/
theorem cstepN_high (k : Nat) (x y : BitVec 32) (h : x = y <<< k) (hy : ∀ i, i + k ≥ 32 → y.getLsbD i = false) : cstepN k x = y := by
  rw [shift_step k x (fun i hi => by subst h; simp [hi])]
  subst h
  apply BitVec.eq_of_getLsbD_eq
  intro i hi
  simp only [BitVec.getLsbD_shiftLeft, BitVec.getLsbD_ushiftRight]
  by_cases h : k + i < 32
  · simp [h]
  · simp [h, hy i (by omega)]


/-! ### a product of two rows, bit by bit from the highest one -/
def one : BitVec 32 := 2147483648#32

def mulTo (a b : BitVec 32) : Nat → BitVec 32
  | 0 => 0#32
  | j + 1 => mulTo a b j ^^^ (if a.getLsbD (31 - j) then cstepN j b else 0#32)

theorem cstepN_one : ∀ i : Fin 32, cstepN i.val one = 1#32 <<< (31 - i.val) := by decide

theorem mulTo_one (r : BitVec 32) (j : Nat) (hj : j ≤ 32) : ∀ t, (mulTo r one j).getLsbD t = (decide (32 - j ≤ t) && r.getLsbD t) := by
  induction j with
  | zero =>
    intro t
    simp only [mulTo, BitVec.getLsbD_zero]
    by_cases h : 32 ≤ t
    · simp [BitVec.getLsbD_of_ge r t h]
    · simp; omega
  | succ j ih =>
    intro t
    have e := cstepN_one ⟨j, by omega⟩
    simp only at e
    simp only [mulTo, BitVec.getLsbD_xor, ih (by omega) t]
    by_cases ht : t = 31 - j
    · subst ht
      have h1 : decide (32 - j ≤ 31 - j) = false := by simp; omega
      have h2 : decide (32 - (j + 1) ≤ 31 - j) = true := by simp
      rw [h1, h2]
      cases hr : r.getLsbD (31 - j)
      · simp
      · simp [e]; omega
    · have h1 : decide (32 - (j + 1) ≤ t) = decide (32 - j ≤ t) := by
        rw [Bool.eq_iff_iff]; simp; omega
      rw [h1]
      have h2 : (if r.getLsbD (31 - j) = true then cstepN j one else 0#32).getLsbD t = false := by
        split
        · rw [e, BitVec.getLsbD_shiftLeft]
          simp
          intro _ _ h
          omega
        · simp
      rw [h2, Bool.xor_false]

theorem mul_one (r : BitVec 32) : mulTo r one 32 = r := by
  apply BitVec.eq_of_getLsbD_eq
  intro i _
  rw [mulTo_one r 32 (by omega)]
  simp

/-! ### eight bytes at once -/
def T (k v : Nat) : BitVec 32 := cstepN (8 * (k + 1)) (BitVec.ofNat 32 v)
def word (b0 b1 b2 b3 : UInt8) : BitVec 32 := ext b0 ||| ext b1 <<< 8 ||| ext b2 <<< 16 ||| ext b3 <<< 24

theorem ext_bit (b : UInt8) (i : Nat) (h : 8 ≤ i) : (ext b).getLsbD i = false := by
  unfold ext
  rw [BitVec.getLsbD_setWidth, BitVec.getLsbD_of_ge _ _ h]; simp

theorem word_xor (b0 b1 b2 b3 : UInt8) : word b0 b1 b2 b3 = ext b0 ^^^ ext b1 <<< 8 ^^^ ext b2 <<< 16 ^^^ ext b3 <<< 24 := by
  unfold word
  apply BitVec.eq_of_getLsbD_eq
  intro i hi
  simp only [BitVec.getLsbD_or, BitVec.getLsbD_xor, BitVec.getLsbD_shiftLeft, hi, decide_true, Bool.true_and]
  by_cases h1 : i < 8
  · have : i < 16 := by omega
    have : i < 24 := by omega
    simp [*]
  · by_cases h2 : i < 16
    · have : i < 24 := by omega
      rw [ext_bit b0 i (by omega)]
      simp [*]
    · by_cases h3 : i < 24
      · rw [ext_bit b0 i (by omega), ext_bit b1 (i - 8) (by omega)]
        simp [*]
      · rw [ext_bit b0 i (by omega), ext_bit b1 (i - 8) (by omega), ext_bit b2 (i - 16) (by omega)]
        simp [*]

theorem ofNat_ext (b : UInt8) : BitVec.ofNat 32 b.toNat = ext b := by
  apply BitVec.eq_of_toNat_eq
  unfold ext
  simp

theorem up (k v : Nat) (hv : v < 256) (hk : k ≤ 24) : cstepN k (BitVec.ofNat 32 v <<< k) = BitVec.ofNat 32 v :=
  cstepN_high k _ _ rfl (fun i hi => by
    rw [BitVec.getLsbD_ofNat, Nat.testBit_lt_two_pow (Nat.lt_of_lt_of_le hv (by rw [show 256 = 2 ^ 8 from rfl]; exact Nat.pow_le_pow_right (by omega) (by omega)))]
    simp)

theorem up_to (m k v : Nat) (hv : v < 256) (hk : k ≤ 24) : cstepN m (BitVec.ofNat 32 v) = cstepN (k + m) (BitVec.ofNat 32 v <<< k) := by
  rw [cstepN_add, up k v hv hk]

theorem split4 (y : BitVec 32) : y = BitVec.ofNat 32 (y.toNat % 256) ^^^ BitVec.ofNat 32 (y.toNat / 256 % 256) <<< 8 ^^^ BitVec.ofNat 32 (y.toNat / 65536 % 256) <<< 16 ^^^ BitVec.ofNat 32 (y.toNat / 16777216) <<< 24 := by
  have e0 : BitVec.ofNat 32 (y.toNat % 256) = (y.setWidth 8).setWidth 32 := by
    apply BitVec.eq_of_toNat_eq; simp
  have e1 : BitVec.ofNat 32 (y.toNat / 256 % 256) = ((y >>> 8).setWidth 8).setWidth 32 := by
    apply BitVec.eq_of_toNat_eq; simp [Nat.shiftRight_eq_div_pow]
  have e2 : BitVec.ofNat 32 (y.toNat / 65536 % 256) = ((y >>> 16).setWidth 8).setWidth 32 := by
    apply BitVec.eq_of_toNat_eq; simp [Nat.shiftRight_eq_div_pow]
  have e3 : BitVec.ofNat 32 (y.toNat / 16777216) = y >>> 24 := by
    apply BitVec.eq_of_toNat_eq
    have := y.isLt
    simp [Nat.shiftRight_eq_div_pow]; omega
  rw [e0, e1, e2, e3]
  apply BitVec.eq_of_getLsbD_eq
  intro i hi
  simp only [BitVec.getLsbD_xor, BitVec.getLsbD_shiftLeft, BitVec.getLsbD_setWidth, BitVec.getLsbD_ushiftRight, hi, decide_true, Bool.true_and]
  by_cases h1 : i < 8
  · have : i < 16 := by omega
    have : i < 24 := by omega
    simp [*]
  · by_cases h2 : i < 16
    · have : i < 24 := by omega
      have : i - 8 < 8 := by omega
      have e : 8 + (i - 8) = i := by omega
      have : i - 8 < 32 := by omega
      simp [*]
    · by_cases h3 : i < 24
      · have : i - 16 < 8 := by omega
        have : ¬ i - 8 < 8 := by omega
        have e : 16 + (i - 16) = i := by omega
        have : i - 16 < 32 := by omega
        simp [*]
      · have : ¬ i - 16 < 8 := by omega
        have : ¬ i - 8 < 8 := by omega
        have e : 24 + (i - 24) = i := by omega
        simp [*]

theorem tab8 (x : BitVec 32) (b0 b1 b2 b3 b4 b5 b6 b7 : UInt8) (y : BitVec 32) (hy : x ^^^ word b0 b1 b2 b3 = y) :
    T 7 (y.toNat % 256) ^^^ T 6 (y.toNat / 256 % 256) ^^^ T 5 (y.toNat / 65536 % 256) ^^^ T 4 (y.toNat / 16777216) ^^^ T 3 b4.toNat ^^^ T 2 b5.toNat ^^^ T 1 b6.toNat ^^^ T 0 b7.toNat = reg x [b0, b1, b2, b3, b4, b5, b6, b7] := by
  have hlt := y.isLt
  have l1 : T 7 (y.toNat % 256) ^^^ T 6 (y.toNat / 256 % 256) ^^^ T 5 (y.toNat / 65536 % 256) ^^^ T 4 (y.toNat / 16777216) = cstepN 64 y := by
    conv => rhs; rw [split4 y]
    simp only [cstepN_xor]
    unfold T
    rw [up_to (8 * (6 + 1)) 8 _ (Nat.mod_lt _ (by omega)) (by omega), up_to (8 * (5 + 1)) 16 _ (Nat.mod_lt _ (by omega)) (by omega), up_to (8 * (4 + 1)) 24 _ (by omega) (by omega)]
  rw [l1, ← hy, word_xor]
  simp only [reg, List.foldl_cons, List.foldl_nil, byteCstep, cstepN_xor, ← cstepN_add, T, ofNat_ext]
  have r1 : ∀ m, cstepN m (ext b1) = cstepN (8 + m) (ext b1 <<< 8) := fun m => by rw [← ofNat_ext]; exact up_to m 8 _ b1.toNat_lt (by omega)
  have r2 : ∀ m, cstepN m (ext b2) = cstepN (16 + m) (ext b2 <<< 16) := fun m => by rw [← ofNat_ext]; exact up_to m 16 _ b2.toNat_lt (by omega)
  have r3 : ∀ m, cstepN m (ext b3) = cstepN (24 + m) (ext b3 <<< 24) := fun m => by rw [← ofNat_ext]; exact up_to m 24 _ b3.toNat_lt (by omega)
  rw [r1, r2, r3]
  simp only [Nat.reduceAdd, Nat.reduceMul, BitVec.xor_assoc]

/-- One byte by the first table. -/
theorem tab1 (x : BitVec 32) (b : UInt8) : x >>> 8 ^^^ T 0 ((x.setWidth 8) ^^^ b.toBitVec).toNat = byteCstep x b := by
  unfold byteCstep T
  rw [cstepN_8 (x ^^^ ext b)]
  have e1 : (x ^^^ ext b) >>> 8 = x >>> 8 := by
    apply BitVec.eq_of_getLsbD_eq
    intro i _
    rw [BitVec.getLsbD_ushiftRight, BitVec.getLsbD_ushiftRight, BitVec.getLsbD_xor, ext_bit b _ (by omega), Bool.xor_false]
  have e2 : ((x ^^^ ext b).setWidth 8).setWidth 32 = BitVec.ofNat 32 ((x.setWidth 8) ^^^ b.toBitVec).toNat := by
    apply BitVec.eq_of_toNat_eq
    unfold ext
    simp [BitVec.setWidth_xor]
  rw [e1, e2]


/-! ### bits that are turned -/
def low (p : BitVec 32) : Nat → BitVec 32
  | 0 => 0#32
  | i + 1 => low p i ^^^ (if p.getLsbD i then 1#32 <<< i else 0#32)

end CrcMath
end

section
/-
  gzip's headers as plain lists: what is read of one, what is put. No program, no dump.
-/
namespace GzMath
open Go.My.NumMath CrcMath

/-- How many bytes stand ahead of the first byte 0. -/
def zer : List UInt8 → Nat
  | [] => 0
  | c :: l => if c = 0 then 0 else zer l + 1
theorem zer_le : ∀ l : List UInt8, zer l ≤ l.length
  | [] => Nat.le_refl _
  | c :: l => by
    unfold zer
    split
    · omega
    · have := zer_le l
      simp only [List.length_cons]
      omega
theorem zer_at : ∀ (l : List UInt8) (k : Nat), k < zer l → l.getD k 0 ≠ 0
  | [], k, h => by simp [zer] at h
  | c :: l, k, h => by
    unfold zer at h
    split at h
    · omega
    · next hc =>
      cases k with
      | zero => simpa using hc
      | succ k => simpa using zer_at l k (by omega)
theorem zer_zero : ∀ (l : List UInt8), zer l < l.length → l.getD (zer l) 0 = 0
  | [], h => by simp [zer] at h
  | c :: l, h => by
    unfold zer at h ⊢
    split
    · next hc => simpa using hc
    · next hc =>
      rw [if_neg hc] at h
      simpa using zer_zero l (by simpa using h)
theorem zer_none {l : List UInt8} (hb : ∀ j, j < l.length → l.getD j 0 ≠ 0) : zer l = l.length := by
  have := zer_le l
  by_cases h : zer l < l.length
  · exact absurd (zer_zero l h) (hb _ h)
  · omega
theorem zer_take (l : List UInt8) (m : Nat) : zer (l.take m) = min (zer l) m := by
  induction l generalizing m with
  | nil => simp [zer]
  | cons c l ih =>
    cases m with
    | zero => simp [zer]
    | succ m =>
      rw [List.take_succ_cons]
      unfold zer
      split
      · omega
      · rw [ih]; omega

/-- How a text ends, where it is read from the beginning of l on: 0 well, 5 more is wanted, 2 it is too long. -/
def tx (l : List UInt8) : Nat := if zer l < l.length ∧ zer l < 65536 then 0 else if l.length ≤ 65535 then 5 else 2
theorem tx_cases (l : List UInt8) : (tx l = 0 ∧ zer l < l.length ∧ zer l < 65536) ∨ (tx l = 5 ∧ zer l = l.length ∧ l.length ≤ 65535) ∨ (tx l = 2 ∧ 65536 ≤ zer l ∧ 65536 ≤ l.length) := by
  have := zer_le l
  unfold tx
  by_cases h : zer l < l.length ∧ zer l < 65536
  · rw [if_pos h]; exact .inl ⟨rfl, h⟩
  · rw [if_neg h]
    by_cases h2 : l.length ≤ 65535
    · rw [if_pos h2]; exact .inr (.inl ⟨rfl, by omega, h2⟩)
    · rw [if_neg h2]; exact .inr (.inr ⟨rfl, by omega, by omega⟩)

/-- A header that was read: its flag and name, its time's number, how many bytes it has. -/
structure Hd where
  named : Bool
  name : List UInt8
  time : Nat
  n : Nat
deriving DecidableEq
/-- An error, or a header. -/
inductive Got where
  | bad (c : Nat)
  | ok (h : Hd)
deriving DecidableEq

/-- The head's own sum. -/
def gsum (b : List UInt8) (fl at_ : Nat) (h : Hd) : Got :=
  if fl / 2 % 2 = 1 then
    if b.length < at_ + 2 then .bad 5
    else if num false ((b.drop at_).take 2) ≠ (crc 0#32 (b.take at_)).toNat % 65536 then .bad 2
    else .ok { h with n := at_ + 2 }
  else .ok { h with n := at_ }
/-- The remark. -/
def grem (b : List UInt8) (fl at_ : Nat) (h : Hd) : Got :=
  if fl / 16 % 2 = 1 then
    if tx (b.drop at_) ≠ 0 then .bad (tx (b.drop at_)) else gsum b fl (at_ + zer (b.drop at_) + 1) h
  else gsum b fl at_ h
/-- The name. -/
def gnam (b : List UInt8) (fl at_ : Nat) (h : Hd) : Got :=
  if fl / 8 % 2 = 1 then
    if tx (b.drop at_) ≠ 0 then .bad (tx (b.drop at_)) else grem b fl (at_ + zer (b.drop at_) + 1) { h with named := true, name := (b.drop at_).take (zer (b.drop at_)) }
  else grem b fl at_ h
/-- The field. -/
def gext (b : List UInt8) (fl at_ : Nat) (h : Hd) : Got :=
  if fl / 4 % 2 = 1 then
    if b.length < at_ + 2 then .bad 5
    else if b.length < at_ + 2 + num false ((b.drop at_).take 2) then .bad 5
    else gnam b fl (at_ + 2 + num false ((b.drop at_).take 2)) h
  else gnam b fl at_ h
/-- A byte of the first three. -/
def mg (k : Nat) : Nat := if k = 0 then 31 else if k = 1 then 139 else 8
/-- What is read at the beginning of b. -/
def rd (b : List UInt8) : Got :=
  if b.length < 1 then .bad 5 else if (b.getD 0 0).toNat ≠ 31 then .bad 2
  else if b.length < 2 then .bad 5 else if (b.getD 1 0).toNat ≠ 139 then .bad 2
  else if b.length < 3 then .bad 5 else if (b.getD 2 0).toNat ≠ 8 then .bad 2
  else if b.length < 4 then .bad 5 else if 32 ≤ (b.getD 3 0).toNat then .bad 2
  else if b.length < 8 then .bad 5 else if b.length < 10 then .bad 5
  else gext b (b.getD 3 0).toNat 10 ⟨false, [], num false ((b.drop 4).take 4), 0⟩
/-- The first k bytes stand as they must. -/
def Mag (b : List UInt8) (k : Nat) : Prop := k ≤ b.length ∧ ∀ j, j < k → (b.getD j 0).toNat = mg j
theorem Mag.zero (b : List UInt8) : Mag b 0 := ⟨Nat.zero_le _, fun _ h => by omega⟩
theorem Mag.succ {b : List UInt8} {k : Nat} (h : Mag b k) (hl : k + 1 ≤ b.length) (he : (b.getD k 0).toNat = mg k) : Mag b (k + 1) :=
  ⟨hl, fun j hj => by
    by_cases hk : j = k
    · rw [hk]; exact he
    · exact h.2 j (by omega)⟩
theorem rd_short {b : List UInt8} {k : Nat} (h : Mag b k) (hk : k ≤ 2) (hl : b.length = k) : rd b = .bad 5 := by
  unfold rd
  have : k = 0 ∨ k = 1 ∨ k = 2 := by omega
  rcases this with rfl | rfl | rfl
  · rw [if_pos (by omega)]
  · have h0 := h.2 0 (by omega)
    rw [show mg 0 = 31 from rfl] at h0
    rw [if_neg (by omega), if_neg (by omega), if_pos (by omega)]
  · have h0 := h.2 0 (by omega)
    have h1 := h.2 1 (by omega)
    rw [show mg 0 = 31 from rfl] at h0
    rw [show mg 1 = 139 from rfl] at h1
    rw [if_neg (by omega), if_neg (by omega), if_neg (by omega), if_neg (by omega), if_pos (by omega)]
theorem rd_wrong {b : List UInt8} {k : Nat} (h : Mag b k) (hk : k ≤ 2) (hl : k < b.length) (he : (b.getD k 0).toNat ≠ mg k) : rd b = .bad 2 := by
  unfold rd
  have : k = 0 ∨ k = 1 ∨ k = 2 := by omega
  rcases this with rfl | rfl | rfl
  · rw [show mg 0 = 31 from rfl] at he
    rw [if_neg (by omega), if_pos (by omega)]
  · have h0 := h.2 0 (by omega)
    rw [show mg 0 = 31 from rfl] at h0
    rw [show mg 1 = 139 from rfl] at he
    rw [if_neg (by omega), if_neg (by omega), if_neg (by omega), if_pos (by omega)]
  · have h0 := h.2 0 (by omega)
    have h1 := h.2 1 (by omega)
    rw [show mg 0 = 31 from rfl] at h0
    rw [show mg 1 = 139 from rfl] at h1
    rw [show mg 2 = 8 from rfl] at he
    rw [if_neg (by omega), if_neg (by omega), if_neg (by omega), if_neg (by omega), if_neg (by omega), if_pos (by omega)]
theorem rd_goes {b : List UInt8} (h : Mag b 3) : rd b =
    if b.length < 4 then .bad 5 else if 32 ≤ (b.getD 3 0).toNat then .bad 2
    else if b.length < 8 then .bad 5 else if b.length < 10 then .bad 5
    else gext b (b.getD 3 0).toNat 10 ⟨false, [], num false ((b.drop 4).take 4), 0⟩ := by
  have h0 := h.2 0 (by omega)
  have h1 := h.2 1 (by omega)
  have h2 := h.2 2 (by omega)
  have := h.1
  rw [show mg 0 = 31 from rfl] at h0
  rw [show mg 1 = 139 from rfl] at h1
  rw [show mg 2 = 8 from rfl] at h2
  rw [rd, if_neg (by omega), if_neg (by omega), if_neg (by omega), if_neg (by omega), if_neg (by omega), if_neg (by omega)]

/-! ### flags -/
theorem num_one (b : List UInt8) (k : Nat) (h : k < b.length) : num false ((b.drop k).take 1) = (b.getD k 0).toNat := by
  rw [List.drop_eq_getElem_cons h, List.take_succ_cons, List.take_zero]
  simp [num, V, List.getD, List.getElem?_eq_getElem h]
end GzMath
end

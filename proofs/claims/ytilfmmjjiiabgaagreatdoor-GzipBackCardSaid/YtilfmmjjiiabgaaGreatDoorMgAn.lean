import Derived.Test.YtilfmmjjiiabgaaGreatDoorRows
import Derived.Test.YtilfmmjjiiabgaaGreatDoorMgAa
import Derived.Laws.Pointers
import Derived.Deep.QuietTactic
import Derived.BigQuiet
import Derived.StillTailTactics
import Derived.WalkKit

section
/-
  Rows of bits, the lowest first: numbers as rows, bytes as rows, rows as bytes. Plain lists: no program, no dump.
-/
namespace BitMath

def lows : Nat → Nat → List Bool
  | 0, _ => []
  | n + 1, v => (v % 2 == 1) :: lows n (v / 2)
def num : List Bool → Nat
  | [] => 0
  | b :: t => b.toNat + 2 * num t
def bitsOf (l : List UInt8) : List Bool := l.flatMap fun b => lows 8 b.toNat

theorem lows_len (n v : Nat) : (lows n v).length = n := by
  induction n generalizing v with
  | zero => rfl
  | succ n ih => simp [lows, ih]
theorem num_lt (l : List Bool) : num l < 2 ^ l.length := by
  induction l with
  | nil => simp [num]
  | cons b t ih => rw [num, List.length_cons, Nat.pow_succ]; cases b <;> simp <;> omega
theorem bit_nat (v : Nat) : (v % 2 == 1).toNat = v % 2 := by
  rcases Nat.mod_two_eq_zero_or_one v with h | h <;> simp [h]
theorem num_lows (n v : Nat) : num (lows n v) = v % 2 ^ n := by
  induction n generalizing v with
  | zero => simp [lows, num, Nat.mod_one]
  | succ n ih =>
    rw [lows, num, ih, bit_nat, Nat.pow_succ, Nat.mul_comm (2 ^ n) 2, Nat.mod_mul]
theorem lows_num (l : List Bool) : lows l.length (num l) = l := by
  induction l with
  | nil => rfl
  | cons b t ih =>
    rw [List.length_cons, lows, num]
    have h1 : (b.toNat + 2 * num t) / 2 = num t := by cases b <;> simp <;> omega
    have h2 : ((b.toNat + 2 * num t) % 2 == 1) = b := by cases b <;> simp <;> omega
    rw [h1, h2, ih]
theorem lows_num_of (n : Nat) (l : List Bool) (h : l.length = n) : lows n (num l) = l := by subst h; exact lows_num l
theorem num_append (a b : List Bool) : num (a ++ b) = num a + 2 ^ a.length * num b := by
  induction a with
  | nil => simp [num]
  | cons x t ih =>
    rw [List.cons_append, num, num, ih, List.length_cons, Nat.pow_succ, Nat.mul_add, Nat.mul_comm (2 ^ t.length) 2, Nat.mul_assoc]
    omega
theorem lows_add (a b v : Nat) : lows (a + b) v = lows a v ++ lows b (v / 2 ^ a) := by
  induction a generalizing v with
  | zero => simp [lows]
  | succ a ih =>
    rw [show a + 1 + b = (a + b) + 1 from by omega, lows, lows, ih, List.cons_append, Nat.div_div_eq_div_mul, Nat.pow_succ, Nat.mul_comm (2 ^ a) 2]
theorem lows_mod (n v : Nat) : lows n (v % 2 ^ n) = lows n v := by
  rw [← num_lows, lows_num_of n _ (lows_len n v)]
theorem lows_eq_of_mod {n a b : Nat} (h : a % 2 ^ n = b % 2 ^ n) : lows n a = lows n b := by
  rw [← lows_mod n a, h, lows_mod]
theorem lows_zero (n : Nat) : lows n 0 = List.replicate n false := by
  induction n with
  | zero => rfl
  | succ n ih => rw [lows, List.replicate_succ]; simp [ih]
theorem num_zero (n : Nat) : num (List.replicate n false) = 0 := by
  rw [← lows_zero, num_lows]; simp
/-- bits put behind others. -/
theorem lows_join (c n r x : Nat) (h : r < 2 ^ c) : lows (c + n) (r + 2 ^ c * x) = lows c r ++ lows n x := by
  rw [lows_add]
  have hp : 0 < 2 ^ c := Nat.two_pow_pos c
  have h1 : (r + 2 ^ c * x) / 2 ^ c = x := by
    rw [Nat.add_mul_div_left _ _ hp, Nat.div_eq_of_lt h, Nat.zero_add]
  rw [h1, lows_eq_of_mod (a := r + 2 ^ c * x) (b := r) (by rw [Nat.add_mul_mod_self_left])]
theorem or_join (c r x : Nat) (h : r < 2 ^ c) : r ||| (x * 2 ^ c) = r + 2 ^ c * x := by
  rw [Nat.mul_comm x, Nat.add_comm, Nat.or_comm]
  exact (Nat.two_pow_add_eq_or_of_lt h x).symm
theorem bitsOf_append (a b : List UInt8) : bitsOf (a ++ b) = bitsOf a ++ bitsOf b := by simp [bitsOf]
theorem bitsOf_nil : bitsOf [] = [] := rfl
theorem bitsOf_cons (b : UInt8) (t : List UInt8) : bitsOf (b :: t) = lows 8 b.toNat ++ bitsOf t := rfl
theorem bitsOf_one (b : UInt8) : bitsOf [b] = lows 8 b.toNat := by simp [bitsOf]
theorem bitsOf_len (l : List UInt8) : (bitsOf l).length = 8 * l.length := by
  induction l with
  | nil => rfl
  | cons b t ih => rw [bitsOf_cons, List.length_append, ih, lows_len, List.length_cons]; omega
theorem bitsOf_drop (l : List UInt8) (j : Nat) : (bitsOf l).drop (8 * j) = bitsOf (l.drop j) := by
  induction j generalizing l with
  | zero => simp
  | succ j ih =>
    cases l with
    | nil => simp [bitsOf]
    | cons b t =>
      rw [bitsOf_cons, List.drop_succ_cons, ← ih t, show 8 * (j + 1) = (lows 8 b.toNat).length + 8 * j from by rw [lows_len]; omega, List.drop_append]
      simp
/-- Rows as bytes, the last one filled up. -/
def pack (bs : List Bool) : List UInt8 := (List.range ((bs.length + 7) / 8)).map fun j => UInt8.ofNat (num ((bs.drop (8 * j)).take 8))
theorem take_lows (b : UInt8) (t : List Bool) : num ((lows 8 b.toNat ++ t).take 8) = b.toNat := by
  rw [List.take_append_of_le_length (by rw [lows_len]; omega), List.take_of_length_le (by rw [lows_len]; omega), num_lows]
  have := b.toNat_lt
  omega
/-- The bits as a text. -/
def chB (b : Bool) : UInt8 := if b then 49 else 48
def txt (bs : List Bool) : ByteArray := ⟨(bs.map chB).toArray⟩
theorem txt_len (bs : List Bool) : (txt bs).size = bs.length := by
  show (bs.map chB).toArray.size = _
  simp
theorem txt_get (bs : List Bool) (i : Nat) (h : i < (txt bs).size) : (txt bs)[i] = chB (bs[i]'(by rwa [txt_len] at h)) := by
  have e : (bs.map chB).toArray[i]'(by simpa [txt_len] using h) = chB (bs[i]'(by rwa [txt_len] at h)) := by simp
  exact e
theorem chB_nat (b : Bool) : (chB b).toNat = 48 + b.toNat := by cases b <;> rfl

theorem lows_turn (n v : Nat) : lows n (num (lows n v).reverse) = (lows n v).reverse := lows_num_of n _ (by simp [lows_len])
theorem num_snoc (l : List Bool) (b : Bool) : num (l ++ [b]) = num l + 2 ^ l.length * b.toNat := by
  rw [num_append]; simp [num]
end BitMath
end

section
/-
  What bytes a call makes of its own (namespace RefC), without functions of the document's answer: for seats where stevedoreref5's Of, Bytes, Number are not all called.
-/
namespace Go.Proofs.YtilfmmjjiiabgaaGreatDoor.RefC
open Go.RowKit Go.My BitMath

theorem info5 : (Tryz.prog.info? 5).map (fun i => (i.zero, i.size, i.bytes)) = some (some (.int .u8 0), 1, 1) := by kernel_rfl

theorem ret_str {a b : ByteArray} (h : a = b) : Ending.returned (.string a) = .returned (.string b) := by rw [h]
/-! ### bytes written into a row of the call's own -/
theorem own_store {E : TypeId} {base : Nat} {w : World} {g n c : Nat} {l : List UInt8} (h : Own E base w (.slice (some ⟨g, 0, none⟩) n c) l) (hn : l.length = n) (i : Nat) (b : UInt8) :
    Own E base (w.setCell ⟨g, i, none⟩ (bv b)) (.slice (some ⟨g, 0, none⟩) n c) (l.set i b) := by
  subst hn
  have := (World.ownsRow.stored h i (bv b)).1
  unfold Own
  rw [List.length_set, List.map_set]
  exact this
theorem own_cell {E : TypeId} {base : Nat} {w : World} {g n c : Nat} {l : List UInt8} (h : Own E base w (.slice (some ⟨g, 0, none⟩) n c) l) (hn : l.length = n) (i : Nat) (hi : i < l.length) : w.cell? ⟨g, i, none⟩ = some (bv l[i]) := by
  subst hn
  have hl := h
  unfold Own at hl
  have hcell := World.ownsRow.cellAt hl i (by simpa using hi)
  rw [hcell, List.getElem?_map, List.getElem?_eq_getElem hi]
  rfl
theorem own_free {E : TypeId} {base : Nat} {w : World} {g n c : Nat} {l : List UInt8} (h : Own E base w (.slice (some ⟨g, 0, none⟩) n c) l) (hn : l.length = n) (i : Nat) : w.frozen? ⟨g, i, none⟩ = false := by
  subst hn
  exact World.ownsRow.frozenAt h i
end Go.Proofs.YtilfmmjjiiabgaaGreatDoor.RefC
end

section
/-
  Matches: how far two places are alike, the places that are asked, the one that is taken. Plain mathematics.
-/
namespace MatMath

def at_ (s : List UInt8) (i : Nat) : UInt8 := s.getD i 0
/-- The same three bytes stand at q and at a. -/
def tri (s : List UInt8) (q a : Nat) : Bool := at_ s q == at_ s a && at_ s (q + 1) == at_ s (a + 1) && at_ s (q + 2) == at_ s (a + 2)
theorem tri_iff {s : List UInt8} {q a : Nat} : tri s q a = true ↔ at_ s q = at_ s a ∧ at_ s (q + 1) = at_ s (a + 1) ∧ at_ s (q + 2) = at_ s (a + 2) := by
  simp [tri, and_assoc]
/-- How many bytes are alike from q and from a on, at most m. -/
def ml : List UInt8 → Nat → Nat → Nat → Nat
  | _, _, _, 0 => 0
  | s, q, a, m + 1 => if at_ s q = at_ s a then ml s (q + 1) (a + 1) m + 1 else 0
theorem ml_stop (s : List UInt8) (m : Nat) : ∀ q a, ml s q a m < m → at_ s (q + ml s q a m) ≠ at_ s (a + ml s q a m) := by
  induction m with
  | zero => intro q a h; omega
  | succ m ih =>
    intro q a h
    by_cases e : at_ s q = at_ s a
    · have hu : ml s q a (m + 1) = ml s (q + 1) (a + 1) m + 1 := by rw [ml, if_pos e]
      rw [hu] at h ⊢
      have := ih (q + 1) (a + 1) (by omega)
      rw [show q + (ml s (q + 1) (a + 1) m + 1) = q + 1 + ml s (q + 1) (a + 1) m from by omega, show a + (ml s (q + 1) (a + 1) m + 1) = a + 1 + ml s (q + 1) (a + 1) m from by omega]
      exact this
    · have hu : ml s q a (m + 1) = 0 := by rw [ml, if_neg e]
      rw [hu]; exact e
/-- As many as are alike. -/
theorem ml_ge {s : List UInt8} {q a m n : Nat} (h1 : n ≤ m) (h2 : ∀ i, i < n → at_ s (q + i) = at_ s (a + i)) : n ≤ ml s q a m := by
  by_cases h : ml s q a m < n
  · exact absurd (h2 _ h) (ml_stop s m q a (by omega))
  · omega
theorem ml_tri {s : List UInt8} {q a m : Nat} (h : tri s q a = true) (hm : 3 ≤ m) : 3 ≤ ml s q a m := by
  obtain ⟨h1, h2, h3⟩ := tri_iff.1 h
  refine ml_ge hm fun i hi => ?_
  match i, hi with
  | 0, _ => exact h1
  | 1, _ => exact h2
  | 2, _ => exact h3
/-! ### the search -/
/-- Good, at least 1. -/
def gd (good : Int) : Int := if good < 1 then 1 else good
/-- From place q down: so many were seen, the best one so far. -/
def scan (s : List UInt8) (far m : Nat) (chain good : Int) (a : Nat) : Nat → Nat → Nat → Nat → Nat × Nat
  | 0, _, b, d => (b, d)
  | q + 1, seen, b, d =>
    if a - q ≤ far ∧ (seen : Int) < chain then
      if tri s q a then
        if gd good ≤ (ml s q a m : Int) then (ml s q a m, a - q)
        else if b < ml s q a m then scan s far m chain good a q (seen + 1) (ml s q a m) (a - q)
        else scan s far m chain good a q (seen + 1) b d
      else scan s far m chain good a q seen b d
    else (b, d)
section
variable {s : List UInt8} {far m : Nat} {chain good : Int} {a : Nat}
/-! ### one step along the chain -/
end

/-! ### what is found -/
def far_ (wide : Bool) : Nat := if wide then 65536 else 32768
def long_ (wide : Bool) : Nat := if wide then 65538 else 258
/-- The length and the distance of a match. -/
def find (s : List UInt8) (chain good : Int) (wide : Bool) (a : Nat) : Nat × Nat :=
  if a + 3 ≤ s.length then scan s (far_ wide) (min (long_ wide) (s.length - a)) chain good a a 0 0 0 else (0, 0)
/-- What a search comes to: nothing new, or a place that was seen. -/
theorem scan_is {s : List UInt8} {far m : Nat} {chain good : Int} {a : Nat} : ∀ q seen b d, q ≤ a → scan s far m chain good a q seen b d = (b, d) ∨
    ∃ p, p < q ∧ tri s p a = true ∧ a - p ≤ far ∧ scan s far m chain good a q seen b d = (ml s p a m, a - p) := by
  intro q
  induction q with
  | zero => intro seen b d _; exact .inl rfl
  | succ q ih =>
    intro seen b d hq
    rw [scan]
    split
    · next h =>
      split
      · next ht =>
        split
        · exact .inr ⟨q, by omega, ht, h.1, rfl⟩
        · split
          · rcases ih (seen + 1) (ml s q a m) (a - q) (by omega) with e | ⟨p, h1, h2, h3, h4⟩
            · exact .inr ⟨q, by omega, ht, h.1, e⟩
            · exact .inr ⟨p, by omega, h2, h3, h4⟩
          · rcases ih (seen + 1) b d (by omega) with e | ⟨p, h1, h2, h3, h4⟩
            · exact .inl e
            · exact .inr ⟨p, by omega, h2, h3, h4⟩
      · rcases ih seen b d (by omega) with e | ⟨p, h1, h2, h3, h4⟩
        · exact .inl e
        · exact .inr ⟨p, by omega, h2, h3, h4⟩
    · exact .inl rfl
theorem long_ge (wide : Bool) : 258 ≤ long_ wide ∧ long_ wide ≤ 65538 := by cases wide <;> simp [long_]
theorem find_is (s : List UInt8) (chain good : Int) (wide : Bool) (a : Nat) : find s chain good wide a = (0, 0) ∨
    ∃ p, a + 3 ≤ s.length ∧ p < a ∧ tri s p a = true ∧ a - p ≤ far_ wide ∧ find s chain good wide a = (ml s p a (min (long_ wide) (s.length - a)), a - p) ∧ 3 ≤ ml s p a (min (long_ wide) (s.length - a)) := by
  unfold find
  split
  · next h3 =>
    rcases scan_is (s := s) (far := far_ wide) (m := min (long_ wide) (s.length - a)) (chain := chain) (good := good) a 0 0 0 (Nat.le_refl _) with e | ⟨p, h1, h2, h4, h5⟩
    · exact .inl e
    · have := long_ge wide
      exact .inr ⟨p, h3, h1, h2, h4, h5, ml_tri h2 (by omega)⟩
  · exact .inl rfl
end MatMath
end

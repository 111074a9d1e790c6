/-
  Numbers of bytes and digits as plain arithmetic: no program, no dump.
-/
namespace Go.My.NumMath

/-- The number that digits represent, the first one the greatest; d: a digit's number, b: the base. -/
def V (d : UInt8 → Nat) (b : Nat) (l : List UInt8) : Nat := l.foldl (fun v c => v * b + d c) 0

theorem foldl_from (d : UInt8 → Nat) (b : Nat) (l : List UInt8) : ∀ x, l.foldl (fun v c => v * b + d c) x = x * b ^ l.length + V d b l := by
  induction l with
  | nil => intro x; simp [V]
  | cons c t ih =>
    intro x
    have h1 := ih (x * b + d c)
    have h2 := ih (0 * b + d c)
    simp only [List.foldl_cons, List.length_cons]
    have e : V d b (c :: t) = (0 * b + d c) * b ^ t.length + V d b t := h2
    rw [h1, e, Nat.add_mul, Nat.add_mul, Nat.pow_succ, Nat.mul_assoc x b, Nat.mul_comm b]
    simp only [Nat.zero_mul, Nat.zero_add, Nat.add_assoc]
theorem V_nil (d : UInt8 → Nat) (b : Nat) : V d b [] = 0 := rfl
theorem V_snoc (d : UInt8 → Nat) (b : Nat) (l : List UInt8) (c : UInt8) : V d b (l ++ [c]) = V d b l * b + d c := by
  unfold V; rw [List.foldl_append]; rfl
theorem V_cons (d : UInt8 → Nat) (b : Nat) (l : List UInt8) (c : UInt8) : V d b (c :: l) = d c * b ^ l.length + V d b l := by
  have := foldl_from d b l (0 * b + d c)
  simp only [Nat.zero_mul, Nat.zero_add] at this
  rw [← this]; unfold V; simp
theorem V_append (d : UInt8 → Nat) (b : Nat) (l m : List UInt8) : V d b (l ++ m) = V d b l * b ^ m.length + V d b m := by
  rw [← foldl_from]; unfold V; rw [List.foldl_append]
theorem V_take_succ (d : UInt8 → Nat) (b : Nat) (l : List UInt8) (k : Nat) (h : k < l.length) : V d b (l.take (k + 1)) = V d b (l.take k) * b + d l[k] := by
  rw [List.take_succ_eq_append_getElem h, V_snoc]
theorem V_take_le (d : UInt8 → Nat) (b : Nat) (hb : 1 ≤ b) (l : List UInt8) (k : Nat) : V d b (l.take k) ≤ V d b l := by
  have h : V d b l = V d b (l.take k) * b ^ (l.drop k).length + V d b (l.drop k) := by rw [← V_append, List.take_append_drop]
  have h1 := Nat.le_mul_of_pos_right (V d b (l.take k)) (Nat.pow_pos (n := (l.drop k).length) (show 0 < b by omega))
  omega
/-- What is too great stays too great. -/
theorem V_over (d : UInt8 → Nat) (b : Nat) (hb : 1 ≤ b) (l : List UInt8) (k : Nat) (h : k < l.length) (M : Nat) (ho : M < V d b (l.take k) * b) : M < V d b l := by
  have h1 := V_take_le d b hb l (k + 1)
  rw [V_take_succ d b l k h] at h1
  omega
theorem V_lt (d : UInt8 → Nat) (b : Nat) (l : List UInt8) (hd : ∀ c ∈ l, d c < b) : V d b l < b ^ l.length := by
  induction l with
  | nil => simp [V]
  | cons c t ih =>
    rw [V_cons, List.length_cons, Nat.pow_succ]
    have h1 := ih fun c h => hd c (List.mem_cons_of_mem _ h)
    have h2 : (d c + 1) * b ^ t.length ≤ b * b ^ t.length := Nat.mul_le_mul_right _ (hd c List.mem_cons_self)
    rw [Nat.add_mul] at h2
    rw [Nat.mul_comm (b ^ t.length)]
    omega
theorem V_congr {d e : UInt8 → Nat} {b : Nat} {l : List UInt8} (h : ∀ c ∈ l, d c = e c) : V d b l = V e b l := by
  induction l with
  | nil => rfl
  | cons c t ih => rw [V_cons, V_cons, h c List.mem_cons_self, ih fun c h1 => h c (List.mem_cons_of_mem _ h1)]

/-- The number of bytes, the highest first, or the lowest. -/
def num (big : Bool) (l : List UInt8) : Nat := V UInt8.toNat 256 (if big then l else l.reverse)
theorem num_lt (big : Bool) (l : List UInt8) : num big l < 256 ^ l.length := by
  unfold num
  cases big
  · have := V_lt UInt8.toNat 256 l.reverse fun c _ => c.toNat_lt
    simpa using this
  · exact V_lt UInt8.toNat 256 l fun c _ => c.toNat_lt
theorem num_lt64 (big : Bool) (l : List UInt8) (h : l.length ≤ 8) : num big l < 18446744073709551616 := by
  have h1 := num_lt big l
  have h2 : 256 ^ l.length ≤ 256 ^ 8 := Nat.pow_le_pow_right (by omega) h
  omega
theorem num_lt7 (big : Bool) (l : List UInt8) (h : l.length ≤ 7) : num big l < 72057594037927936 := by
  have h1 := num_lt big l
  have h2 : 256 ^ l.length ≤ 256 ^ 7 := Nat.pow_le_pow_right (by omega) h
  omega
theorem num_big (l : List UInt8) (k : Nat) (h : k < l.length) : num true (l.take (k + 1)) = num true (l.take k) * 256 + l[k].toNat := by
  unfold num; simp only [if_true]; exact V_take_succ _ _ _ _ h
theorem num_little (l : List UInt8) (k : Nat) (h : k < l.length) : num false (l.take (k + 1)) = num false (l.take k) + l[k].toNat * 256 ^ k := by
  unfold num
  simp only [Bool.false_eq_true, if_false]
  rw [List.take_succ_eq_append_getElem h, List.reverse_append]
  simp only [List.reverse_cons, List.reverse_nil, List.nil_append, List.cons_append]
  rw [V_cons]
  simp only [List.length_reverse, List.length_take]
  rw [Nat.min_eq_left (by omega), Nat.add_comm]
/-- Bytes in the order of their weight, the greatest first: what a loop from the highest byte on reads. -/
theorem num_rev (big : Bool) (l : List UInt8) : num big l = num true (if big then l else l.reverse) := by
  unfold num; cases big <;> simp

/-! ### bytes of a number -/
def byteAt (v k : Nat) : UInt8 := UInt8.ofNat (v / 256 ^ k % 256)
theorem byteAt_toNat (v k : Nat) : (byteAt v k).toNat = v / 256 ^ k % 256 := by unfold byteAt; simp
def bytesTo (big : Bool) (n v i : Nat) : List UInt8 := (List.range i).map fun j => byteAt v (if big then n - 1 - j else j)
/-- The lowest n bytes of v. -/
def bytesOf (big : Bool) (n v : Nat) : List UInt8 := bytesTo big n v n
theorem bytesTo_zero (big : Bool) (n v : Nat) : bytesTo big n v 0 = [] := rfl
theorem bytesTo_succ (big : Bool) (n v i : Nat) : bytesTo big n v (i + 1) = bytesTo big n v i ++ [byteAt v (if big then n - 1 - i else i)] := by
  unfold bytesTo; rw [List.range_succ, List.map_append]; rfl
theorem bytesTo_len (big : Bool) (n v i : Nat) : (bytesTo big n v i).length = i := by unfold bytesTo; simp
theorem bytesOf_len (big : Bool) (n v : Nat) : (bytesOf big n v).length = n := bytesTo_len _ _ _ _

/-! ### digits of a number -/
/-- n digits of v, the greatest first. -/
def fix (d : Nat → UInt8) (b : Nat) : Nat → Nat → List UInt8
  | 0, _ => []
  | n + 1, v => d (v / b ^ n % b) :: fix d b n v
theorem fix_len (d : Nat → UInt8) (b n v : Nat) : (fix d b n v).length = n := by
  induction n with
  | zero => rfl
  | succ n ih => simp [fix, ih]
theorem fix_snoc (d : Nat → UInt8) (b n v : Nat) : fix d b (n + 1) v = fix d b n (v / b) ++ [d (v % b)] := by
  induction n generalizing v with
  | zero => simp [fix]
  | succ n ih =>
    rw [fix, ih v]
    show _ = (d (v / b / b ^ n % b) :: fix d b n (v / b)) ++ [d (v % b)]
    rw [Nat.div_div_eq_div_mul, Nat.pow_succ, Nat.mul_comm b]
    rfl
theorem fix_pad (d : Nat → UInt8) (b m v : Nat) (hb : 1 ≤ b) (h : v < b ^ m) (k : Nat) : fix d b (m + k) v = List.replicate k (d 0) ++ fix d b m v := by
  induction k with
  | zero => simp
  | succ k ih =>
    have hle : b ^ m ≤ b ^ (m + k) := Nat.pow_le_pow_right hb (by omega)
    have h0 : v / b ^ (m + k) = 0 := Nat.div_eq_of_lt (by omega)
    rw [← Nat.add_assoc, fix, h0, ih, List.replicate_succ]
    simp
theorem V_fix (e : UInt8 → Nat) (d : Nat → UInt8) (b : Nat) (h : ∀ x, x < b → e (d x) = x) (hb : 1 ≤ b) (n v : Nat) : V e b (fix d b n v) = v % b ^ n := by
  induction n with
  | zero => simp [fix, V, Nat.mod_one]
  | succ n ih =>
    rw [fix, V_cons, ih, fix_len, h _ (Nat.mod_lt _ (by omega)), Nat.mod_pow_succ, Nat.mul_comm]
    omega
theorem fix_mem (d : Nat → UInt8) (b : Nat) (hb : 1 ≤ b) (n v : Nat) : ∀ c ∈ fix d b n v, ∃ x, x < b ∧ c = d x := by
  induction n with
  | zero => intro c h; cases h
  | succ n ih =>
    intro c h
    rcases List.mem_cons.1 h with h | h
    · exact ⟨_, Nat.mod_lt _ (by omega), h⟩
    · exact ih c h

/-! ### the greatest number that a text may represent; what a text that is too great gives -/
def rngV (v : Nat) : Nat := if v ≤ 4611686018427387904 then v else 0
def rngE (v : Nat) : Nat := if v ≤ 4611686018427387904 then 0 else 7
end Go.My.NumMath

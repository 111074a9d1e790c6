/-
  LZ77 tokens: which may be, how many bytes, which bytes. Plain mathematics.
-/
import Derived.Test.YtaeoedapaiapdaaWinMath
namespace LzMath
open WinMath

/-- A token. -/
structure Tok where
  len : Int
  dist : Int
  byte : UInt8

/-- The longest match, the farthest one. -/
def ml (wide : Bool) : Int := if wide then 65538 else 258
def md (wide : Bool) : Nat := if wide then 65536 else 32768
def Lone (t : Tok) : Prop := t.len = 0 ∧ t.dist = 0
def Mat (wide : Bool) (t : Tok) : Prop := t.byte = 0 ∧ 3 ≤ t.len ∧ t.len ≤ ml wide ∧ 1 ≤ t.dist ∧ t.dist ≤ (md wide : Int)
def May (wide : Bool) (t : Tok) : Prop := Lone t ∨ Mat wide t
instance (t : Tok) : Decidable (Lone t) := inferInstanceAs (Decidable (_ ∧ _))
instance (wide : Bool) (t : Tok) : Decidable (Mat wide t) := inferInstanceAs (Decidable (_ ∧ _))
instance (wide : Bool) (t : Tok) : Decidable (May wide t) := inferInstanceAs (Decidable (_ ∨ _))

/-- How many bytes a token is, and k of them. -/
def sz (t : Tok) : Nat := if t.len = 0 then 1 else t.len.toNat
def tot (f : Nat → Tok) : Nat → Nat
  | 0 => 0
  | k + 1 => tot f k + sz (f k)
/-- Token k may stand there. -/
def Ok (wide : Bool) (f : Nat → Tok) (k : Nat) : Prop := May wide (f k) ∧ (f k).dist ≤ (tot f k : Int)
def GoodT (wide : Bool) (f : Nat → Tok) (n : Nat) : Prop := ∀ i, i < n → Ok wide f i
theorem good_zero (wide : Bool) (f : Nat → Tok) : GoodT wide f 0 := fun i h => by omega
theorem good_succ {wide : Bool} {f : Nat → Tok} {n : Nat} (h : GoodT wide f n) (k : Ok wide f n) : GoodT wide f (n + 1) := fun i hi => by
  by_cases h1 : i < n
  · exact h i h1
  · obtain rfl : i = n := by omega
    exact k
theorem good_or (wide : Bool) (f : Nat → Tok) (n : Nat) : GoodT wide f n ∨ ∃ k, k < n ∧ GoodT wide f k ∧ ¬ Ok wide f k := by
  induction n with
  | zero => exact .inl (good_zero wide f)
  | succ n ih =>
    rcases ih with h | ⟨k, h1, h2, h3⟩
    · by_cases hk : Ok wide f n
      · exact .inl (good_succ h hk)
      · exact .inr ⟨n, by omega, h, hk⟩
    · exact .inr ⟨k, by omega, h2, h3⟩
theorem tot_mono (f : Nat → Tok) (k n : Nat) (h : k ≤ n) : tot f k ≤ tot f n := by
  induction n with
  | zero => obtain rfl : k = 0 := by omega
            exact Nat.le_refl _
  | succ n ih =>
    by_cases h1 : k ≤ n
    · exact Nat.le_trans (ih h1) (Nat.le_add_right _ _)
    · obtain rfl : k = n + 1 := by omega
      exact Nat.le_refl _

/-- All bytes behind one more token. -/
def step (all : List UInt8) (t : Tok) : List UInt8 := if t.len = 0 then all ++ [t.byte] else grow all t.dist.toNat t.len.toNat
def ex (f : Nat → Tok) : Nat → List UInt8
  | 0 => []
  | k + 1 => step (ex f k) (f k)
theorem step_len (all : List UInt8) (t : Tok) : (step all t).length = all.length + sz t := by
  unfold step sz
  split
  · simp
  · exact grow_len _ _ _
theorem ex_len (f : Nat → Tok) (k : Nat) : (ex f k).length = tot f k := by
  induction k with
  | zero => rfl
  | succ k ih => show (step _ _).length = _; rw [step_len, ih]; rfl
theorem step_pre (all : List UInt8) (t : Tok) : ∃ r, step all t = all ++ r := by
  unfold step
  split
  · exact ⟨_, rfl⟩
  · exact grow_pre _ _ _
theorem ex_pre (f : Nat → Tok) (k n : Nat) (h : k ≤ n) : ∃ r, ex f n = ex f k ++ r := by
  induction n with
  | zero => obtain rfl : k = 0 := by omega
            exact ⟨[], by simp⟩
  | succ n ih =>
    by_cases h1 : k ≤ n
    · obtain ⟨r, hr⟩ := ih h1
      obtain ⟨s, hs⟩ := step_pre (ex f n) (f n)
      exact ⟨r ++ s, by show step _ _ = _; rw [hs, hr, List.append_assoc]⟩
    · obtain rfl : k = n + 1 := by omega
      exact ⟨[], by simp⟩

theorem may_wide {t : Tok} (h : May false t) : May true t := by
  rcases h with h | ⟨h1, h2, h3, h4, h5⟩
  · exact .inl h
  · refine .inr ⟨h1, h2, ?_, h4, ?_⟩
    · simp [ml] at *; omega
    · simp [md] at *; omega
theorem good_wide {f : Nat → Tok} {n : Nat} (h : GoodT false f n) : GoodT true f n := fun i hi => ⟨may_wide (h i hi).1, (h i hi).2⟩

/-! ### two lists -/
def join (f : Nat → Tok) (n : Nat) (g : Nat → Tok) : Nat → Tok := fun i => if i < n then f i else g (i - n)
section
variable {f g : Nat → Tok} {n k : Nat}
theorem join_left (h : k < n) : join f n g k = f k := by unfold join; rw [if_pos h]
theorem join_right : join f n g (n + k) = g k := by unfold join; rw [if_neg (by omega), Nat.add_sub_cancel_left]
theorem tot_left (h : k ≤ n) : tot (join f n g) k = tot f k := by
  induction k with
  | zero => rfl
  | succ k ih => show tot _ k + sz _ = tot _ k + sz _; rw [ih (by omega), join_left (by omega)]
theorem ex_left (h : k ≤ n) : ex (join f n g) k = ex f k := by
  induction k with
  | zero => rfl
  | succ k ih => show step _ _ = step _ _; rw [ih (by omega), join_left (by omega)]
theorem tot_join : tot (join f n g) (n + k) = tot f n + tot g k := by
  induction k with
  | zero => exact tot_left (Nat.le_refl _)
  | succ k ih =>
    show tot _ (n + k) + sz (join f n g (n + k)) = tot f n + (tot g k + sz _)
    rw [ih, join_right, Nat.add_assoc]
theorem good_join {wide : Bool} {m : Nat} (h : GoodT wide f n) (h2 : GoodT wide g m) : GoodT wide (join f n g) (n + m) := by
  intro i hi
  by_cases h3 : i < n
  · have := h i h3
    unfold Ok at *
    rw [join_left h3, tot_left (by omega)]
    exact this
  · obtain ⟨j, rfl⟩ : ∃ j, i = n + j := ⟨i - n, by omega⟩
    have := h2 j (by omega)
    unfold Ok at *
    rw [join_right, tot_join]
    exact ⟨this.1, by omega⟩
end
theorem grow_app (A B : List UInt8) (d n : Nat) (_h1 : 1 ≤ d) (h2 : d ≤ B.length) : grow (A ++ B) d n = A ++ grow B d n := by
  induction n with
  | zero => rfl
  | succ n ih =>
    rw [grow_succ, grow_succ, ih, List.append_assoc]
    congr 3
    rw [List.length_append, List.getD_eq_getElem?_getD, List.getD_eq_getElem?_getD, grow_len, List.getElem?_append_right (by omega)]
    congr 2
    omega
theorem ex_join {wide : Bool} {f g : Nat → Tok} {n m : Nat} (h : GoodT wide g m) (k : Nat) (hk : k ≤ m) : ex (join f n g) (n + k) = ex f n ++ ex g k := by
  induction k with
  | zero => rw [show n + 0 = n from rfl, ex_left (Nat.le_refl _)]; simp [ex]
  | succ k ih =>
    show step (ex _ (n + k)) (join f n g (n + k)) = ex f n ++ step (ex g k) (g k)
    rw [ih (by omega), join_right]
    obtain ⟨hm, hd⟩ := h k (by omega)
    unfold step
    split
    · rw [List.append_assoc]
    · next h0 =>
      rcases hm with hm | hm
      · exact absurd hm.1 h0
      · have := hm.2.2.2.1
        exact grow_app _ _ _ _ (by omega) (by rw [ex_len]; omega)

/-! ### what stands where -/
theorem lit_at (f : Nat → Tok) (k n : Nat) (hk : k < n) (h : (f k).len = 0) : tot f k < (ex f n).length ∧ (ex f n)[tot f k]? = some (f k).byte := by
  obtain ⟨r, hr⟩ := ex_pre f (k + 1) n hk
  have e : ex f (k + 1) = ex f k ++ [(f k).byte] := by show step _ _ = _; unfold step; rw [if_pos h]
  have hl := ex_len f k
  have h1 : (ex f n)[tot f k]? = some (f k).byte := by
    rw [hr, e, List.append_assoc, List.getElem?_append_right (by omega), hl, Nat.sub_self]
    rfl
  exact ⟨(List.getElem?_eq_some_iff.1 h1).1, h1⟩
theorem mat_at (f : Nat → Tok) (k n j : Nat) (hk : k < n) (h : (f k).len ≠ 0) (h1 : 1 ≤ (f k).dist) (h2 : (f k).dist ≤ (tot f k : Int)) (hj : (j : Int) < (f k).len) :
    tot f k + j < (ex f n).length ∧ (f k).dist.toNat ≤ tot f k + j ∧ (ex f n)[tot f k + j]? = (ex f n)[tot f k + j - (f k).dist.toNat]? := by
  obtain ⟨r, hr⟩ := ex_pre f (k + 1) n hk
  have e : ex f (k + 1) = grow (ex f k) (f k).dist.toNat (f k).len.toNat := by show step _ _ = _; unfold step; rw [if_neg h]
  rw [grow_copy] at e
  have hl := ex_len f k
  have hn := tot_mono f (k + 1) n hk
  have hs : tot f (k + 1) = tot f k + (f k).len.toNat := by show tot f k + sz _ = _; unfold sz; rw [if_neg h]
  refine ⟨by rw [ex_len]; omega, by omega, ?_⟩
  have hcl := copy_len (ex f k) (f k).dist.toNat (f k).len.toNat
  have c1 := copy_get (ex f k) (f k).dist.toNat (f k).len.toNat (by omega) (by omega) j (by omega)
  have a1 : (ex f n)[tot f k + j]? = (copy (ex f k) (f k).dist.toNat (f k).len.toNat)[j]? := by
    rw [hr, e, List.getElem?_append_left (by rw [List.length_append]; omega), List.getElem?_append_right (by omega)]
    congr 1; omega
  rw [a1, c1, hl]
  by_cases hjd : j < (f k).dist.toNat
  · rw [Nat.mod_eq_of_lt hjd, hr, e, List.append_assoc, List.getElem?_append_left (by omega)]
    congr 1; omega
  · have c2 := copy_get (ex f k) (f k).dist.toNat (f k).len.toNat (by omega) (by omega) (j - (f k).dist.toNat) (by omega)
    rw [hr, e, List.getElem?_append_left (by rw [List.length_append]; omega), List.getElem?_append_right (by omega),
      show tot f k + j - (f k).dist.toNat - (ex f k).length = j - (f k).dist.toNat from by omega, c2, hl, Nat.mod_eq_sub_mod (by omega)]
end LzMath

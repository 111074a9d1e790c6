/-
  How often symbols occur among tokens; what they cost. Plain lists: no program, no dump.
-/
import Derived.Test.YtaeoedapaiapdaaBkMath
import Derived.Test.YtaeoedapaiapdaaPkMath
namespace InfMath
open BitMath CanMath TabMath
open LzMath (Tok)
open PackMath (sm)

/-- The literal symbol of a token. -/
def symL (wide : Bool) (t : Tok) : Nat := if t.len = 0 then t.byte.toNat else (lp t.len.toNat wide).s
/-- How often a symbol of the literal code occurs among the first k tokens. -/
def litc (wide : Bool) (f : Nat → Tok) : Nat → Nat → Nat
  | 0, _ => 0
  | k + 1, s => if s = symL wide (f k) then litc wide f k s + 1 else litc wide f k s
def dstc (f : Nat → Tok) : Nat → Nat → Nat
  | 0, _ => 0
  | k + 1, s => if (f k).len ≠ 0 ∧ s = (dp (f k).dist.toNat).s then dstc f k s + 1 else dstc f k s
/-- All extra bits. -/
def xtr (wide : Bool) (f : Nat → Tok) : Nat → Nat
  | 0 => 0
  | k + 1 => xtr wide f k + if (f k).len = 0 then 0 else (lp (f k).len.toNat wide).x + (dp (f k).dist.toNat).x
/-- With the block's end. -/
def lite (wide : Bool) (f : Nat → Tok) (n s : Nat) : Nat := if s = 256 then litc wide f n s + 1 else litc wide f n s
theorem litc_le (wide : Bool) (f : Nat → Tok) (k s : Nat) : litc wide f k s ≤ k := by
  induction k with
  | zero => simp [litc]
  | succ k ih => unfold litc; split <;> omega
theorem dstc_le (f : Nat → Tok) (k s : Nat) : dstc f k s ≤ k := by
  induction k with
  | zero => simp [dstc]
  | succ k ih => unfold dstc; split <;> omega
theorem lite_le (wide : Bool) (f : Nat → Tok) (n s : Nat) : lite wide f n s ≤ n + 1 := by
  have := litc_le wide f n s
  unfold lite; split <;> omega
theorem litc_mono (wide : Bool) (f : Nat → Tok) {k n : Nat} (h : k ≤ n) (s : Nat) : litc wide f k s ≤ litc wide f n s := by
  induction n with
  | zero => obtain rfl : k = 0 := by omega
            exact Nat.le_refl _
  | succ n ih =>
    by_cases e : k = n + 1
    · subst e; exact Nat.le_refl _
    · have := ih (by omega)
      have h2 : litc wide f n s ≤ litc wide f (n + 1) s := by rw [litc]; split <;> omega
      omega
theorem dstc_mono (f : Nat → Tok) {k n : Nat} (h : k ≤ n) (s : Nat) : dstc f k s ≤ dstc f n s := by
  induction n with
  | zero => obtain rfl : k = 0 := by omega
            exact Nat.le_refl _
  | succ n ih =>
    by_cases e : k = n + 1
    · subst e; exact Nat.le_refl _
    · have := ih (by omega)
      have h2 : dstc f n s ≤ dstc f (n + 1) s := by rw [dstc]; split <;> omega
      omega
theorem sm_bump (n s v : Nat) (F G : Nat → Nat) (hs : s < n) (h : ∀ j, j < n → G j = if j = s then F j + v else F j) : sm n G = sm n F + v := by
  induction n with
  | zero => omega
  | succ n ih =>
    show sm n G + G n = sm n F + F n + v
    rw [h n (by omega)]
    by_cases e : n = s
    · subst e
      rw [if_pos rfl]
      have : sm n G = sm n F := PackMath.sm_congr fun j hj => by rw [h j (by omega), if_neg (by omega)]
      omega
    · rw [if_neg e, ih (by omega) (fun j hj => h j (by omega))]
      omega
/-- A symbol that occurs once more costs its length more. -/
theorem cost_bump (n s : Nat) (F : Nat → Nat) (B : Nat → Nat) (hs : s < n) : sm n (fun j => (if j = s then F j + 1 else F j) * B j) = sm n (fun j => F j * B j) + B s :=
  sm_bump n s (B s) _ _ hs fun j _ => by
    by_cases e : j = s
    · subst e; rw [if_pos rfl, if_pos rfl, Nat.succ_mul]
    · rw [if_neg e, if_neg e]
theorem sym_small {wide : Bool} {t : Tok} (h : LzMath.May wide t) : symL wide t < 286 := by
  unfold symL
  split
  · have := t.byte.toNat_lt; omega
  · next h0 =>
    rcases h with hl | ⟨-, m1, m2, m3, m4⟩
    · exact absurd hl.1 h0
    · unfold LzMath.ml at m2
      obtain ⟨l, a1, a2, a3, a4, a5, a6⟩ := lp_base t.len.toNat wide (by omega) (by cases wide <;> simp at * <;> omega)
      omega
theorem mat_of {wide : Bool} {t : Tok} (h : LzMath.May wide t) (h0 : t.len ≠ 0) : 3 ≤ t.len.toNat ∧ t.len.toNat ≤ (if wide then 65538 else 258) ∧ 1 ≤ t.dist.toNat ∧ t.dist.toNat ≤ (if wide then 65536 else 32768) ∧ (t.len.toNat : Int) = t.len ∧ (t.dist.toNat : Int) = t.dist := by
  rcases h with hl | ⟨-, m1, m2, m3, m4⟩
  · exact absurd hl.1 h0
  · unfold LzMath.ml at m2
    unfold LzMath.md at m4
    refine ⟨by omega, by cases wide <;> simp at * <;> omega, by omega, by cases wide <;> simp at * <;> omega, by omega, by omega⟩
theorem dist_small {wide : Bool} {t : Tok} (h : LzMath.May wide t) (h0 : t.len ≠ 0) : (dp t.dist.toNat).s < 32 := by
  obtain ⟨-, -, h3, h4, -⟩ := mat_of h h0
  obtain ⟨l, b1, b2, b3, b4, b5⟩ := dp_far t.dist.toNat wide h3 h4
  have : lastD wide ≤ 31 := by cases wide <;> decide
  omega
/-- What the tokens and the block's end take in any codes. -/
def cst (wide : Bool) (f : Nat → Tok) (n : Nat) (BL BD : Nat → Nat) : Nat := sm 286 (fun j => lite wide f n j * BL j) + sm 32 (fun j => dstc f n j * BD j) + xtr wide f n
theorem bits_ln (ls : List Nat) (i : Nat) : (bitsAt ls i).length = ln ls i := by
  by_cases h : i < ls.length
  · rw [bitsAt_len ls i h, ln_eq ls i h]
  · unfold bitsAt; rw [dif_neg h, ln_out ls i (by omega)]; rfl
theorem tks_cost (L D : List Nat) (wide : Bool) (f : Nat → Tok) (n : Nat) (hM : ∀ i, i < n → LzMath.May wide (f i)) :
    (tks L D wide f n).length = sm 286 (fun j => litc wide f n j * ln L j) + sm 32 (fun j => dstc f n j * ln D j) + xtr wide f n := by
  induction n with
  | zero =>
    have z1 : sm 286 (fun j => litc wide f 0 j * ln L j) = 0 := by
      have := PackMath.sm_congr (n := 286) (f := fun j => litc wide f 0 j * ln L j) (g := fun _ => 0) fun j _ => by simp [litc]
      rw [this, PackMath.sm_const]
    have z2 : sm 32 (fun j => dstc f 0 j * ln D j) = 0 := by
      have := PackMath.sm_congr (n := 32) (f := fun j => dstc f 0 j * ln D j) (g := fun _ => 0) fun j _ => by simp [dstc]
      rw [this, PackMath.sm_const]
    rw [z1, z2]; rfl
  | succ n ih =>
    have hm := hM n (by omega)
    rw [tks, List.length_append, ih (fun i hi => hM i (by omega))]
    have c1 := cost_bump 286 (symL wide (f n)) (litc wide f n) (ln L) (sym_small hm)
    have e1 : sm 286 (fun j => litc wide f (n + 1) j * ln L j) = sm 286 (fun j => (if j = symL wide (f n) then litc wide f n j + 1 else litc wide f n j) * ln L j) := rfl
    rw [e1, c1, xtr]
    unfold tkb
    by_cases h0 : (f n).len = 0
    · rw [if_pos h0, if_pos h0, bits_ln]
      have e2 : sm 32 (fun j => dstc f (n + 1) j * ln D j) = sm 32 (fun j => dstc f n j * ln D j) := PackMath.sm_congr fun j _ => by rw [dstc, if_neg (fun h => h.1 h0)]
      rw [e2]
      unfold symL
      rw [if_pos h0]
      omega
    · rw [if_neg h0, if_neg h0]
      have c2 := cost_bump 32 (dp (f n).dist.toNat).s (dstc f n) (ln D) (dist_small hm h0)
      have e2 : sm 32 (fun j => dstc f (n + 1) j * ln D j) = sm 32 (fun j => (if j = (dp (f n).dist.toNat).s then dstc f n j + 1 else dstc f n j) * ln D j) := PackMath.sm_congr fun j _ => by
        rw [dstc]
        by_cases e : j = (dp (f n).dist.toNat).s
        · rw [if_pos ⟨h0, e⟩, if_pos e]
        · rw [if_neg (fun h => e h.2), if_neg e]
      rw [e2, c2]
      unfold pbits
      simp only [List.length_append, bits_ln, lows_len]
      unfold symL
      rw [if_neg h0]
      omega
/-- A block's bits behind its header are what its symbols cost. -/
theorem blk_cost (L D : List Nat) (wide : Bool) (f : Nat → Tok) (n : Nat) (hM : ∀ i, i < n → LzMath.May wide (f i)) :
    (tks L D wide f n ++ bitsAt L 256).length = cst wide f n (ln L) (ln D) := by
  rw [List.length_append, tks_cost L D wide f n hM, bits_ln]
  unfold cst
  have c := cost_bump 286 256 (litc wide f n) (ln L) (by omega)
  have e : sm 286 (fun j => lite wide f n j * ln L j) = sm 286 (fun j => (if j = 256 then litc wide f n j + 1 else litc wide f n j) * ln L j) := rfl
  rw [e, c]
  omega
/-- Symbols that occur are those of tokens, or the end. -/
theorem lite_used (wide : Bool) (f : Nat → Tok) (n i : Nat) (hi : i < n) : 0 < lite wide f n (symL wide (f i)) := by
  have h1 : litc wide f (i + 1) (symL wide (f i)) ≤ litc wide f n (symL wide (f i)) := litc_mono wide f (by omega) _
  rw [litc, if_pos rfl] at h1
  unfold lite; split <;> omega
theorem lite_stop (wide : Bool) (f : Nat → Tok) (n : Nat) : 0 < lite wide f n 256 := by unfold lite; rw [if_pos rfl]; omega
theorem dstc_used (f : Nat → Tok) (n i : Nat) (hi : i < n) (h0 : (f i).len ≠ 0) : 0 < dstc f n (dp (f i).dist.toNat).s := by
  have h1 : dstc f (i + 1) (dp (f i).dist.toNat).s ≤ dstc f n (dp (f i).dist.toNat).s := dstc_mono f (by omega) _
  rw [dstc, if_pos ⟨h0, rfl⟩] at h1
  omega
theorem dstc_some (f : Nat → Tok) (n s : Nat) (h : 0 < dstc f n s) : ∃ i, i < n ∧ (f i).len ≠ 0 ∧ s = (dp (f i).dist.toNat).s := by
  induction n with
  | zero => simp [dstc] at h
  | succ n ih =>
    rw [dstc] at h
    by_cases e : (f n).len ≠ 0 ∧ s = (dp (f n).dist.toNat).s
    · exact ⟨n, by omega, e⟩
    · rw [if_neg e] at h
      obtain ⟨i, hi, h2⟩ := ih h
      exact ⟨i, by omega, h2⟩
end InfMath

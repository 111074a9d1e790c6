/-
  inflate's machine over a block of fixed codes. No program, no dump.
-/
import Derived.Test.YtaeoedapaiapdaaInfExt
namespace InfMath
open BitMath CanMath TabMath WinMath

theorem sym_at {ls : List Nat} (hc : CodeOk ls) (i : Nat) (h : 1 ≤ ln ls i) (r : List Bool) : sym ls (bitsAt ls i ++ r) = (i, ln ls i, 0) := by
  have hi := ln_lt h
  have hlen : (bitsAt ls i).length = ln ls i := by rw [bitsAt_len ls i hi, ln_eq ls i hi]
  have h15 : ln ls i ≤ 15 := ln_le hc.all i
  have hx : Has ls (num ((bitsAt ls i ++ r).take 15)) i := by
    refine ⟨h, ?_⟩
    rw [num_mod_take, List.take_take, Nat.min_eq_left h15, take_ext (by omega), List.take_of_length_le (by omega), bitsAt_wd ls i hi, num_lows, Nat.mod_eq_of_lt (wd_lt ls i)]
  unfold sym
  rw [who_some hc.all hc.kr hx]
  simp only
  rw [if_neg (by omega), if_neg (by simp; omega)]
theorem fixL_len : fixL.length = 288 := by decide +kernel
theorem fixD_len : fixD.length = 32 := by decide +kernel
theorem fixL_ln : ∀ v : Fin 288, 1 ≤ ln fixL v.val := by decide +kernel
theorem fixD_ln : ∀ v : Fin 32, ln fixD v.val = 5 := by decide +kernel
/-- The fixed codes as the document writes them. -/
def fixCode (v : Nat) : Nat × Nat := if v < 144 then (8, 48 + v) else if v < 256 then (9, 400 + v - 144) else if v < 280 then (7, v - 256) else (8, 192 + v - 280)
theorem fixL_code : ∀ v : Fin 288, (ln fixL v.val, codeN fixL (ln fixL v.val) v.val) = fixCode v.val := by decide +kernel
theorem fixD_code : ∀ v : Fin 32, codeN fixD (ln fixD v.val) v.val = v.val := by decide +kernel
theorem fixL_bits (v : Nat) (h : v < 288) : bitsAt fixL v = (lows (fixCode v).1 (fixCode v).2).reverse := by
  have h1 := fixL_code ⟨v, h⟩
  simp only at h1
  have hl : v < fixL.length := by rw [fixL_len]; exact h
  rw [bitsAt_eq fixL v hl, ← h1, ln_eq fixL v hl]
theorem fixD_bits (v : Nat) (h : v < 32) : bitsAt fixD v = (lows 5 v).reverse := by
  have h1 := fixD_code ⟨v, h⟩
  have h2 := fixD_ln ⟨v, h⟩
  simp only at h1 h2
  have hl : v < fixD.length := by rw [fixD_len]; exact h
  rw [bitsAt_eq fixD v hl, ← ln_eq fixD v hl, h2]
  rw [h2] at h1
  rw [h1]

/-- The machine within a last block of fixed codes. -/
def fx (wide : Bool) (S most p : Nat) (b : List Bool) (o : List UInt8) (m : Nat) : M :=
  { start wide S most with bits := b, pushed := p, final := true, fixed := true, lit := some fixL, dist := some fixD, next := 9, hist := o, out := o, total := o.length, matching := m }
section
variable {wide : Bool} {S most : Nat}
theorem lit_step (p : Nat) (r : List Bool) (o : List UInt8) (m : Nat) (c : UInt8) (hm : o.length < most) :
    step (fx wide S most p (bitsAt fixL c.toNat ++ r) o m) = .more (fx wide S most p r (o ++ [c]) m) := by
  have hc := c.toNat_lt
  have h1 := fixL_ln ⟨c.toNat, by omega⟩
  have hs := sym_at fixL_ok c.toNat h1 r
  have hd : (bitsAt fixL c.toNat ++ r).drop (ln fixL c.toNat) = r := by
    rw [List.drop_append_of_le_length (by rw [bitsAt_len fixL _ (ln_lt h1), ln_eq fixL _ (ln_lt h1)]; exact Nat.le_refl _), List.drop_of_length_le (by rw [bitsAt_len fixL _ (ln_lt h1), ln_eq fixL _ (ln_lt h1)]; exact Nat.le_refl _), List.nil_append]
  show readLiteral (fx wide S most p (bitsAt fixL c.toNat ++ r) o m) = _
  unfold readLiteral fx
  simp only [Option.getD_some, hs]
  rw [if_neg (by decide)]
  unfold readLit
  rw [if_pos (by omega), if_neg (by simp [start]; omega)]
  simp only [put, hd, UInt8.ofNat_toNat, List.length_append, List.length_singleton]
theorem mat_steps (p : Nat) (r : List Bool) (o : List UInt8) (m : Nat) {a l x v b k y u : Nat} (ha : base a wide = some (l, x)) (hv : v < 2 ^ x) (hb : far b wide = some (k, y)) (hu : u < 2 ^ y) (hbl : b < 32)
    (hd : k + u ≤ min o.length S) (hm : o.length + (l + v) ≤ most) :
    Steps (fx wide S most p (bitsAt fixL a ++ (lows x v ++ (bitsAt fixD b ++ (lows y u ++ r)))) o m) (fx wide S most p r (grow o (k + u) (l + v)) (l + v)) := by
  have ha2 : 257 ≤ a ∧ a ≤ 285 := by
    unfold base at ha
    by_cases h : a < 257 ∨ 285 < a
    · rw [if_pos h] at ha; cases ha
    · omega
  have h1 := fixL_ln ⟨a, by omega⟩
  have hl1 : (bitsAt fixL a).length = ln fixL a := by rw [bitsAt_len fixL _ (ln_lt h1), ln_eq fixL _ (ln_lt h1)]
  have hs := sym_at fixL_ok a h1 (lows x v ++ (bitsAt fixD b ++ (lows y u ++ r)))
  have h2 := fixD_ln ⟨b, hbl⟩
  simp only at h1 h2
  have hl2 : (bitsAt fixD b).length = 5 := by rw [bitsAt_len fixD b (by rw [fixD_len]; exact hbl), ← ln_eq fixD b (by rw [fixD_len]; exact hbl), h2]
  have hs2 := sym_at fixD_ok b (by omega) (lows y u ++ r)
  rw [h2] at hs2
  have hlx := lows_len x v
  have hly := lows_len y u
  have s1 : step (fx wide S most p (bitsAt fixL a ++ (lows x v ++ (bitsAt fixD b ++ (lows y u ++ r)))) o m) = .more { fx wide S most p (bitsAt fixD b ++ (lows y u ++ r)) o (l + v) with next := 10 } := by
    show readLiteral (fx wide S most p _ o m) = _
    unfold readLiteral fx
    simp only [Option.getD_some, hs]
    rw [if_neg (by decide)]
    unfold readLit
    rw [if_neg (by omega), if_neg (by omega)]
    simp only [start, ha]
    rw [if_neg (by simp [hl1, hlx])]
    have e1 : ((bitsAt fixL a ++ (lows x v ++ (bitsAt fixD b ++ (lows y u ++ r)))).drop (ln fixL a)) = lows x v ++ (bitsAt fixD b ++ (lows y u ++ r)) := by
      rw [List.drop_append_of_le_length (by omega), List.drop_of_length_le (by omega), List.nil_append]
    have e2 : num ((lows x v ++ (bitsAt fixD b ++ (lows y u ++ r))).take x) = v := by
      rw [List.take_append_of_le_length (by omega), List.take_of_length_le (by omega), num_lows, Nat.mod_eq_of_lt hv]
    rw [← List.drop_drop, e1, e2, List.drop_append_of_le_length (by omega), List.drop_of_length_le (by omega), List.nil_append]
  have s2 : step { fx wide S most p (bitsAt fixD b ++ (lows y u ++ r)) o (l + v) with next := 10 } = .more (fx wide S most p r (grow o (k + u) (l + v)) (l + v)) := by
    show readDistance { fx wide S most p (bitsAt fixD b ++ (lows y u ++ r)) o (l + v) with next := 10 } = _
    unfold readDistance fx
    simp only [Option.getD_some, hs2, start]
    rw [if_neg (by omega), if_neg (by decide)]
    unfold readDist
    simp only [hb]
    rw [if_neg (by simp [hl2, hly])]
    have e1 : ((bitsAt fixD b ++ (lows y u ++ r)).drop 5) = lows y u ++ r := by
      rw [List.drop_append_of_le_length (by omega), List.drop_of_length_le (by omega), List.nil_append]
    have e2 : num ((lows y u ++ r).take y) = u := by
      rw [List.take_append_of_le_length (by omega), List.take_of_length_le (by omega), num_lows, Nat.mod_eq_of_lt hu]
    rw [e1, e2]
    unfold copied
    simp only
    rw [if_neg (by omega), ← List.drop_drop, e1, List.drop_append_of_le_length (by omega), List.drop_of_length_le (by omega), List.nil_append, ← grow_copy, grow_len]
  exact .cons s1 (.one s2)

/-- Bits that come to these bytes. -/
def Goes (wide : Bool) (S most : Nat) (B : List Bool) (o : List UInt8) : Prop := ∃ m, ∀ p r, Steps (fx wide S most p (B ++ r) [] 0) (fx wide S most p r o m)
theorem Goes.nil : Goes wide S most [] [] := ⟨0, fun _ _ => .refl _⟩
theorem Goes.lit {B : List Bool} {o : List UInt8} (h : Goes wide S most B o) (c : UInt8) (hm : o.length < most) : Goes wide S most (B ++ bitsAt fixL c.toNat) (o ++ [c]) := by
  obtain ⟨m, h⟩ := h
  refine ⟨m, fun p r => ?_⟩
  rw [List.append_assoc]
  exact (h p _).snoc (lit_step p r o m c hm)
theorem Goes.mat {B : List Bool} {o : List UInt8} (h : Goes wide S most B o) {a l x v b k y u : Nat} (ha : base a wide = some (l, x)) (hv : v < 2 ^ x) (hb : far b wide = some (k, y)) (hu : u < 2 ^ y) (hbl : b < 32)
    (hd : k + u ≤ min o.length S) (hm : o.length + (l + v) ≤ most) : Goes wide S most (B ++ (bitsAt fixL a ++ (lows x v ++ (bitsAt fixD b ++ lows y u)))) (grow o (k + u) (l + v)) := by
  obtain ⟨m, h⟩ := h
  refine ⟨l + v, fun p r => ?_⟩
  have := mat_steps (S := S) p r o m ha hv hb hu hbl hd hm
  simp only [List.append_assoc]
  exact (h p _).trans this
theorem Goes.ends {B : List Bool} {o : List UInt8} (h : Goes wide S most B o) (p : Nat) (z : List Bool) : ∃ t, Ends { start wide S most with bits := [true, true, false] ++ (B ++ (bitsAt fixL 256 ++ z)), pushed := p } t 0 ∧ t.out = o := by
  obtain ⟨m, h⟩ := h
  have s1 : step { start wide S most with bits := [true, true, false] ++ (B ++ (bitsAt fixL 256 ++ z)), pushed := p } = .more (fx wide S most p (B ++ (bitsAt fixL 256 ++ z)) [] 0) := by
    show opening _ = _
    unfold opening
    have e1 : num (([true, true, false] ++ (B ++ (bitsAt fixL 256 ++ z))).take 3) = 3 := rfl
    have e2 : ([true, true, false] ++ (B ++ (bitsAt fixL 256 ++ z))).drop 3 = B ++ (bitsAt fixL 256 ++ z) := rfl
    simp only [e1, e2]
    rw [if_neg (by simp), if_neg (by decide), if_pos (by decide)]
    rfl
  have hs := sym_at fixL_ok 256 (fixL_ln ⟨256, by omega⟩) z
  generalize ln fixL 256 = q at hs
  have s2 : step (fx wide S most p (bitsAt fixL 256 ++ z) o m) = .more { fx wide S most p ((bitsAt fixL 256 ++ z).drop q) o m with next := 11 } := by
    show readLiteral (fx wide S most p _ o m) = _
    unfold readLiteral fx
    simp only [Option.getD_some, hs]
    rw [if_neg (by decide)]
    unfold readLit close
    rw [if_neg (by decide), if_pos rfl]
    rfl
  exact ⟨_, ⟨(Steps.one s1).trans ((h p _).snoc s2), by unfold step; rfl⟩, rfl⟩
end
end InfMath

/-
  Numbers of parts of 512 as decimal texts, and back: no program, no dump.
-/
import Derived.Test.YtehlgnjbmdaakaaDoorNumS
import Derived.Lib.ItoaNum
import Derived.Lib.TrimByte
import Derived.Lib.Repeat
namespace Go.My.Txt
open NumMath

def chr (u : Nat) : UInt8 := UInt8.ofNat (48 + u)
def dg : Nat → Nat → List UInt8
  | 0, _ => []
  | n + 1, u => if u < 10 then [chr u] else dg n (u / 10) ++ [chr (u % 10)]
theorem dec_dg (n : Nat) : ∀ u, u < 10 ^ n → 0 < n → Lib.decDigits u = dg n u := by
  induction n with
  | zero => intro u _ h; omega
  | succ n ih =>
    intro u hu _
    rw [Lib.decDigits]
    unfold dg
    by_cases h : u < 10
    · rw [dif_pos h, if_pos h]; rfl
    · rw [dif_neg h, if_neg h]
      have hn : 0 < n := by
        cases n with
        | zero => simp at hu; omega
        | succ n => omega
      rw [ih (u / 10) (by rw [Nat.pow_succ] at hu; omega) hn]; rfl

/-- The digits behind the point of r parts. -/
def gen : Nat → Nat → List UInt8
  | 0, _ => []
  | n + 1, r => if r = 0 then [] else chr (r * 10 / 512) :: gen n (r * 10 % 512)
def fracT (r : Nat) : List UInt8 := if r = 0 then [] else 46 :: gen 9 r
/-- Parts of 512 as a text. -/
def textF (p : Int) : List UInt8 := (if p < 0 then [45] else []) ++ (Lib.decDigits (p.natAbs / 512) ++ fracT (p.natAbs % 512))

theorem frac_len : ∀ r : Fin 512, r.val ≠ 0 → (dg 10 (r.val * 1953125)).length ≤ 9 := by decide +kernel
theorem frac_text : ∀ r : Fin 512, r.val ≠ 0 → Lib.trimRightB (List.replicate (9 - (dg 10 (r.val * 1953125)).length) 48 ++ dg 10 (r.val * 1953125)) 48 = gen 9 r.val := by decide +kernel
theorem gen_len (n r : Nat) : (gen n r).length ≤ n := by
  induction n generalizing r with
  | zero => simp [gen]
  | succ n ih =>
    unfold gen
    split
    · simp
    · simp [ih]

/-! ### reading -/
def dval (l : List UInt8) : Nat := V (dig 10) 10 l
def fracV (l : List UInt8) : Nat := dval (l.take 9 ++ List.replicate (9 - (l.take 9).length) 48)
def fracS (f : List UInt8) : Nat := fracV (Lib.trimRightB f 48) / 1953125
def fracX (f : List UInt8) : Bool := decide ((Lib.trimRightB f 48).length ≤ 9) && decide (fracV (Lib.trimRightB f 48) % 1953125 = 0)
def neg (l : List UInt8) : Bool := l.head? == some 45
def num (l : List UInt8) : List UInt8 := if neg l then l.tail else l
def wholeL (l : List UInt8) : List UInt8 := (num l).takeWhile (· != 46)
def rest (l : List UInt8) : List UInt8 := (num l).dropWhile (· != 46)
def fracL (l : List UInt8) : List UInt8 := if rest l = [] then [48] else (rest l).tail
def parseE (l : List UInt8) : Nat :=
  if decE (wholeL l) = 2 ∨ decE (fracL l) = 2 then 2
  else if decE (wholeL l) ≠ 0 ∨ 8589934592 < decV (wholeL l) ∨ (decV (wholeL l) = 8589934592 ∧ (0 < fracS (fracL l) ∨ fracX (fracL l) = false)) then 7 else 0
def parseP (l : List UInt8) : Int :=
  if parseE l = 0 then
    (if neg l then -((fracS (fracL l) + decV (wholeL l) * 512 : Nat) : Int) - (if fracX (fracL l) then 0 else 1) else ((fracS (fracL l) + decV (wholeL l) * 512 : Nat) : Int))
  else 0

theorem frac_back : ∀ r : Fin 512, r.val ≠ 0 → fracS (gen 9 r.val) = r.val ∧ fracX (gen 9 r.val) = true ∧ decE (gen 9 r.val) = 0 := by decide +kernel
end Go.My.Txt

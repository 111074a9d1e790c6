import Derived.Test.YtdbcendnibgcaaaGreatDoorMgAo
import Derived.Test.YtdbcendnibgcaaaGreatDoorMgAt

section
/-
  inflate as a machine that goes step by step over bits. Plain lists: no program, no dump.
-/
namespace InfMath
open BitMath CanMath TabMath WinMath

/-- What a set of lengths makes: 0 none, 1 whole, 2 single, 3 part, 4 over. -/
def kd (ls : List Nat) : Nat := if 32768 < kr ls then 4 else if kr ls = 0 then 0 else if kr ls = 32768 then 1 else if kr ls = 16384 ∧ ls.count 1 = 1 then 2 else 3

/-- The machine. -/
structure M where
  wide : Bool
  size : Nat
  most : Nat
  bits : List Bool
  pushed : Nat
  ended : Bool
  hist : List UInt8
  out : List UInt8
  total : Nat
  next : Nat
  final : Bool
  left : Nat
  hl : Nat
  hd : Nat
  hc : Nat
  lens : List Nat
  hcode : Option (List Nat)
  fixed : Bool
  lit : Option (List Nat)
  dist : Option (List Nat)
  matching : Nat
deriving DecidableEq

inductive Res where
  | more (s : M)
  | halt (c : Nat)

def lack (s : M) : Nat := if s.ended then 2 else 5
def fixL : List Nat := List.replicate 144 8 ++ List.replicate 112 9 ++ List.replicate 24 7 ++ List.replicate 8 8
def fixD : List Nat := List.replicate 32 5

/-- The symbol in front: it, its bits, an error. -/
def sym (ls : List Nat) (bs : List Bool) : Nat × Nat × Nat :=
  if (who ls (num (bs.take 15))).l = 0 then (0, 0, 2) else if min bs.length 15 < (who ls (num (bs.take 15))).l then (0, 0, 5) else ((who ls (num (bs.take 15))).v, (who ls (num (bs.take 15))).l, 0)

def base (s : Nat) (wide : Bool) : Option (Nat × Nat) :=
  if s < 257 ∨ 285 < s then none else if s < 265 then some (s - 254, 0) else if s < 285 then some (3 + (4 + (s - 265) % 4) * 2 ^ ((s - 265) / 4 + 1), (s - 265) / 4 + 1) else if wide then some (3, 16) else some (258, 0)
def lastD (wide : Bool) : Nat := if wide then 31 else 29
def far (s : Nat) (wide : Bool) : Option (Nat × Nat) :=
  if lastD wide < s then none else if s < 4 then some (1 + s, 0) else some (1 + (2 + s % 2) * 2 ^ (s / 2 - 1), s / 2 - 1)

def order : List Nat := [16, 17, 18, 0, 8, 7, 9, 6, 10, 5, 11, 4, 12, 3, 13, 2, 14, 1, 15]
/-- Lengths where they belong, the first i of them. -/
def scat (lens : List Nat) : Nat → List Nat
  | 0 => List.replicate 19 0
  | i + 1 => (scat lens i).set (order.getD i 0) (lens.getD i 0)
def usable (ls : List Nat) : Bool := kd ls == 1 || kd ls == 2

def close (s : M) : M := { s with next := if s.final then 11 else 1 }
def put (s : M) (c : UInt8) : M := { s with hist := s.hist ++ [c], out := s.out ++ [c], total := s.total + 1 }

def opening (s : M) : Res :=
  if s.bits.length < 3 then .halt (lack s)
  else if num (s.bits.take 3) / 2 = 0 then .more { s with bits := s.bits.drop 3, final := num (s.bits.take 3) % 2 == 1, next := 2 }
  else if num (s.bits.take 3) / 2 = 1 then .more { s with bits := s.bits.drop 3, final := num (s.bits.take 3) % 2 == 1, fixed := true, lit := some fixL, dist := some fixD, next := 9 }
  else if num (s.bits.take 3) / 2 = 2 then .more { s with bits := s.bits.drop 3, final := num (s.bits.take 3) % 2 == 1, next := 4 }
  else .halt 2
def readSize (s : M) : Res :=
  if s.bits.length % 8 ≠ 0 then .more { s with bits := s.bits.drop (s.bits.length % 8) }
  else if s.bits.length < 32 then .halt (lack s)
  else if num ((s.bits.drop 16).take 16) + num (s.bits.take 16) ≠ 65535 then .halt 2
  else .more { s with bits := s.bits.drop 32, left := num (s.bits.take 16), next := 3 }
def readBytes (s : M) : Res :=
  if s.left = 0 then .more (close s)
  else if s.bits.length < 8 then .halt (lack s)
  else if s.most ≤ s.total then .halt 3
  else .more { put s (UInt8.ofNat (num (s.bits.take 8))) with bits := s.bits.drop 8, left := s.left - 1 }
def readHlit (s : M) : Res :=
  if s.bits.length < 5 then .halt (lack s)
  else if 29 < num (s.bits.take 5) then .halt 2
  else .more { s with bits := s.bits.drop 5, hl := 257 + num (s.bits.take 5), hd := 0, hc := 0, lens := [], hcode := none, next := 5 }
def readHdist (s : M) : Res :=
  if s.bits.length < 5 then .halt (lack s)
  else if lastD s.wide < num (s.bits.take 5) then .halt 2
  else .more { s with bits := s.bits.drop 5, hd := 1 + num (s.bits.take 5), next := 6 }
def readHclen (s : M) : Res :=
  if s.bits.length < 4 then .halt (lack s)
  else .more { s with bits := s.bits.drop 4, hc := 4 + num (s.bits.take 4), next := 7 }
def readCodeLengths (s : M) : Res :=
  if s.lens.length < s.hc then
    if s.bits.length < 3 then .halt (lack s) else .more { s with bits := s.bits.drop 3, lens := s.lens ++ [num (s.bits.take 3)] }
  else if kd (scat s.lens s.lens.length) ≠ 1 then .halt 2
  else .more { s with hcode := some (scat s.lens s.lens.length), lens := [], next := 8 }
def extra (v : Nat) : Nat := if v = 16 then 2 else if v = 17 then 3 else if v = 18 then 7 else 0
def least (v : Nat) : Nat := if v = 16 then 3 else if v = 17 then 3 else if v = 18 then 11 else 1
def length_ (v : Nat) (lens : List Nat) : Nat := if v = 16 then lens.getLastD 0 else if v = 17 then 0 else if v = 18 then 0 else v
/-- One length, or several, where the symbol v of n bits stands in front. -/
def readLen (s : M) (v n : Nat) : Res :=
  if v = 16 ∧ s.lens = [] then .halt 2
  else if s.bits.length < n + extra v then .halt (lack s)
  else if s.hl + s.hd < s.lens.length + (least v + num ((s.bits.drop n).take (extra v))) then .halt 2
  else .more { s with bits := s.bits.drop (n + extra v), lens := s.lens ++ List.replicate (least v + num ((s.bits.drop n).take (extra v))) (length_ v s.lens) }
def bad (s : M) (c : Nat) : Nat := if c = 5 then lack s else c
def readLength (s : M) (ls : List Nat) : Res :=
  if (sym ls s.bits).2.2 ≠ 0 then .halt (bad s (sym ls s.bits).2.2) else readLen s (sym ls s.bits).1 (sym ls s.bits).2.1
def goodCodes (l d : List Nat) : Bool := l.getD 256 0 != 0 && usable l && (kd d == 0 || usable d)
def readLengths (s : M) : Res :=
  if s.lens.length < s.hl + s.hd then readLength s (s.hcode.getD [])
  else if goodCodes (s.lens.take s.hl) (s.lens.drop s.hl) = false then .halt 2
  else .more { s with lit := some (s.lens.take s.hl), dist := some (s.lens.drop s.hl), hl := 0, hd := 0, hc := 0, lens := [], hcode := none, next := 9 }
def readLit (s : M) (v n : Nat) : Res :=
  if v < 256 then
    if s.most ≤ s.total then .halt 3 else .more { put s (UInt8.ofNat v) with bits := s.bits.drop n }
  else if v = 256 then .more (close { s with bits := s.bits.drop n })
  else match base v s.wide with
    | none => .halt 2
    | some (l, x) => if s.bits.length < n + x then .halt (lack s) else .more { s with bits := s.bits.drop (n + x), matching := l + num ((s.bits.drop n).take x), next := 10 }
def readLiteral (s : M) : Res :=
  if (sym (s.lit.getD []) s.bits).2.2 ≠ 0 then .halt (bad s (sym (s.lit.getD []) s.bits).2.2) else readLit s (sym (s.lit.getD []) s.bits).1 (sym (s.lit.getD []) s.bits).2.1
/-- A match, d bytes ahead. -/
def copied (s : M) (d n : Nat) : Res :=
  if min s.hist.length s.size < d then .halt 2
  else .more { s with bits := s.bits.drop n, hist := grow s.hist d s.matching, out := s.out ++ copy s.hist d s.matching, total := s.total + s.matching, next := 9 }
def readDist (s : M) (v n : Nat) : Res :=
  match far v s.wide with
  | none => .halt 2
  | some (l, x) => if s.bits.length < n + x then .halt (lack s) else copied s (l + num ((s.bits.drop n).take x)) (n + x)
def readDistance (s : M) : Res :=
  if s.most < s.total + s.matching then .halt 3
  else if (sym (s.dist.getD []) s.bits).2.2 ≠ 0 then .halt (bad s (sym (s.dist.getD []) s.bits).2.2) else readDist s (sym (s.dist.getD []) s.bits).1 (sym (s.dist.getD []) s.bits).2.1

def step (s : M) : Res :=
  match s.next with
  | 1 => opening s
  | 2 => readSize s
  | 3 => readBytes s
  | 4 => readHlit s
  | 5 => readHdist s
  | 6 => readHclen s
  | 7 => readCodeLengths s
  | 8 => readLengths s
  | 9 => readLiteral s
  | 10 => readDistance s
  | _ => .halt 0

inductive Steps : M → M → Prop
  | refl (s : M) : Steps s s
  | cons {s t u : M} (h : step s = .more t) (k : Steps t u) : Steps s u
theorem Steps.trans {a b c : M} (h : Steps a b) (k : Steps b c) : Steps a c := by
  induction h with
  | refl => exact k
  | cons h _ ih => exact .cons h (ih k)
theorem Steps.one {a b : M} (h : step a = .more b) : Steps a b := .cons h (.refl b)
theorem Steps.snoc {a b c : M} (h : Steps a b) (k : step b = .more c) : Steps a c := h.trans (.one k)

/-- From s it comes to t, and there it ends so. -/
def Ends (s t : M) (c : Nat) : Prop := Steps s t ∧ step t = .halt c
theorem Ends.one {s t u : M} {c : Nat} (h : step s = .more t) (k : Ends t u c) : Ends s u c := ⟨.cons h k.1, k.2⟩
theorem Ends.of {s t u : M} {c : Nat} (h : Steps s t) (k : Ends t u c) : Ends s u c := ⟨h.trans k.1, k.2⟩
theorem Ends.next {s t u : M} {c : Nat} (h : Steps s t) (k : Ends s u c) : Ends t u c := by
  induction h with
  | refl => exact k
  | cons h _ ih =>
    refine ih ?_
    obtain ⟨hs, he⟩ := k
    cases hs with
    | refl => rw [h] at he; cases he
    | cons h2 k2 => rw [h] at h2; cases h2; exact ⟨k2, he⟩
theorem Ends.det {s t u : M} {c d : Nat} (h : Ends s t c) (k : Ends s u d) : t = u ∧ c = d := by
  have := k.next h.1
  obtain ⟨hs, he⟩ := this
  cases hs with
  | refl => have h2 := h.2; rw [he] at h2; cases h2; exact ⟨rfl, rfl⟩
  | cons h2 _ => have h3 := h.2; rw [h2] at h3; cases h3

/-- The machine, so many steps. -/
def run : Nat → M → M × Option Nat
  | 0, s => (s, none)
  | n + 1, s => match step s with
    | .more t => run n t
    | .halt c => (s, some c)
theorem run_ends : ∀ (n : Nat) (s t : M) (c : Nat), run n s = (t, some c) → Ends s t c
  | 0, _, _, _, h => by simp [run] at h
  | n + 1, s, t, c, h => by
    unfold run at h
    split at h
    · next u hu => exact .one hu (run_ends n u t c h)
    · next d hd =>
      injection h with h1 h2
      injection h2 with h2
      subst h1 h2
      exact ⟨.refl _, hd⟩

/-- The machine as it begins. -/
def start (wide : Bool) (size most : Nat) : M := ⟨wide, size, most, [], 0, false, [], [], 0, 1, false, 0, 0, 0, 0, [], none, false, none, none, 0⟩
end InfMath
end

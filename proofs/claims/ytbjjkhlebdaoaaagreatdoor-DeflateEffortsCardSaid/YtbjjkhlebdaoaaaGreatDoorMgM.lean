import Derived.Test.YtbjjkhlebdaoaaaGreatDoorMgB

section
/-
  inflate as a machine that goes step by step over bits. Plain lists: no program, no dump.
-/
namespace InfMath
open BitMath CanMath TabMath WinMath

/-- What a set of lengths makes: 0 none, 1 whole, 2 single, 3 part, 4 over. -/
def kd (ls : List Nat) : Nat := if 32768 < kr ls then 4 else if kr ls = 0 then 0 else if kr ls = 32768 then 1 else if kr ls = 16384 ∧ ls.count 1 = 1 then 2 else 3

/-- The machine. -/
structure M where
  wide : Bool
  size : Nat
  most : Nat
  bits : List Bool
  pushed : Nat
  ended : Bool
  hist : List UInt8
  out : List UInt8
  total : Nat
  next : Nat
  final : Bool
  left : Nat
  hl : Nat
  hd : Nat
  hc : Nat
  lens : List Nat
  hcode : Option (List Nat)
  fixed : Bool
  lit : Option (List Nat)
  dist : Option (List Nat)
  matching : Nat
deriving DecidableEq

inductive Res where
  | more (s : M)
  | halt (c : Nat)

def lack (s : M) : Nat := if s.ended then 2 else 5
def fixL : List Nat := List.replicate 144 8 ++ List.replicate 112 9 ++ List.replicate 24 7 ++ List.replicate 8 8
def fixD : List Nat := List.replicate 32 5

/-- The symbol in front: it, its bits, an error. -/
def sym (ls : List Nat) (bs : List Bool) : Nat × Nat × Nat :=
  if (who ls (num (bs.take 15))).l = 0 then (0, 0, 2) else if min bs.length 15 < (who ls (num (bs.take 15))).l then (0, 0, 5) else ((who ls (num (bs.take 15))).v, (who ls (num (bs.take 15))).l, 0)

def base (s : Nat) (wide : Bool) : Option (Nat × Nat) :=
  if s < 257 ∨ 285 < s then none else if s < 265 then some (s - 254, 0) else if s < 285 then some (3 + (4 + (s - 265) % 4) * 2 ^ ((s - 265) / 4 + 1), (s - 265) / 4 + 1) else if wide then some (3, 16) else some (258, 0)
def lastD (wide : Bool) : Nat := if wide then 31 else 29
def far (s : Nat) (wide : Bool) : Option (Nat × Nat) :=
  if lastD wide < s then none else if s < 4 then some (1 + s, 0) else some (1 + (2 + s % 2) * 2 ^ (s / 2 - 1), s / 2 - 1)

def order : List Nat := [16, 17, 18, 0, 8, 7, 9, 6, 10, 5, 11, 4, 12, 3, 13, 2, 14, 1, 15]
/-- Lengths where they belong, the first i of them. -/
def scat (lens : List Nat) : Nat → List Nat
  | 0 => List.replicate 19 0
  | i + 1 => (scat lens i).set (order.getD i 0) (lens.getD i 0)
def usable (ls : List Nat) : Bool := kd ls == 1 || kd ls == 2

def close (s : M) : M := { s with next := if s.final then 11 else 1 }
def put (s : M) (c : UInt8) : M := { s with hist := s.hist ++ [c], out := s.out ++ [c], total := s.total + 1 }

def opening (s : M) : Res :=
  if s.bits.length < 3 then .halt (lack s)
  else if num (s.bits.take 3) / 2 = 0 then .more { s with bits := s.bits.drop 3, final := num (s.bits.take 3) % 2 == 1, next := 2 }
  else if num (s.bits.take 3) / 2 = 1 then .more { s with bits := s.bits.drop 3, final := num (s.bits.take 3) % 2 == 1, fixed := true, lit := some fixL, dist := some fixD, next := 9 }
  else if num (s.bits.take 3) / 2 = 2 then .more { s with bits := s.bits.drop 3, final := num (s.bits.take 3) % 2 == 1, next := 4 }
  else .halt 2
def readSize (s : M) : Res :=
  if s.bits.length % 8 ≠ 0 then .more { s with bits := s.bits.drop (s.bits.length % 8) }
  else if s.bits.length < 32 then .halt (lack s)
  else if num ((s.bits.drop 16).take 16) + num (s.bits.take 16) ≠ 65535 then .halt 2
  else .more { s with bits := s.bits.drop 32, left := num (s.bits.take 16), next := 3 }
def readBytes (s : M) : Res :=
  if s.left = 0 then .more (close s)
  else if s.bits.length < 8 then .halt (lack s)
  else if s.most ≤ s.total then .halt 3
  else .more { put s (UInt8.ofNat (num (s.bits.take 8))) with bits := s.bits.drop 8, left := s.left - 1 }
def readHlit (s : M) : Res :=
  if s.bits.length < 5 then .halt (lack s)
  else if 29 < num (s.bits.take 5) then .halt 2
  else .more { s with bits := s.bits.drop 5, hl := 257 + num (s.bits.take 5), hd := 0, hc := 0, lens := [], hcode := none, next := 5 }
def readHdist (s : M) : Res :=
  if s.bits.length < 5 then .halt (lack s)
  else if lastD s.wide < num (s.bits.take 5) then .halt 2
  else .more { s with bits := s.bits.drop 5, hd := 1 + num (s.bits.take 5), next := 6 }
def readHclen (s : M) : Res :=
  if s.bits.length < 4 then .halt (lack s)
  else .more { s with bits := s.bits.drop 4, hc := 4 + num (s.bits.take 4), next := 7 }
def readCodeLengths (s : M) : Res :=
  if s.lens.length < s.hc then
    if s.bits.length < 3 then .halt (lack s) else .more { s with bits := s.bits.drop 3, lens := s.lens ++ [num (s.bits.take 3)] }
  else if kd (scat s.lens s.lens.length) ≠ 1 then .halt 2
  else .more { s with hcode := some (scat s.lens s.lens.length), lens := [], next := 8 }
def extra (v : Nat) : Nat := if v = 16 then 2 else if v = 17 then 3 else if v = 18 then 7 else 0
def least (v : Nat) : Nat := if v = 16 then 3 else if v = 17 then 3 else if v = 18 then 11 else 1
def length_ (v : Nat) (lens : List Nat) : Nat := if v = 16 then lens.getLastD 0 else if v = 17 then 0 else if v = 18 then 0 else v
/-- One length, or several, where the symbol v of n bits stands in front. -/
def readLen (s : M) (v n : Nat) : Res :=
  if v = 16 ∧ s.lens = [] then .halt 2
  else if s.bits.length < n + extra v then .halt (lack s)
  else if s.hl + s.hd < s.lens.length + (least v + num ((s.bits.drop n).take (extra v))) then .halt 2
  else .more { s with bits := s.bits.drop (n + extra v), lens := s.lens ++ List.replicate (least v + num ((s.bits.drop n).take (extra v))) (length_ v s.lens) }
def bad (s : M) (c : Nat) : Nat := if c = 5 then lack s else c
def readLength (s : M) (ls : List Nat) : Res :=
  if (sym ls s.bits).2.2 ≠ 0 then .halt (bad s (sym ls s.bits).2.2) else readLen s (sym ls s.bits).1 (sym ls s.bits).2.1
def goodCodes (l d : List Nat) : Bool := l.getD 256 0 != 0 && usable l && (kd d == 0 || usable d)
def readLengths (s : M) : Res :=
  if s.lens.length < s.hl + s.hd then readLength s (s.hcode.getD [])
  else if goodCodes (s.lens.take s.hl) (s.lens.drop s.hl) = false then .halt 2
  else .more { s with lit := some (s.lens.take s.hl), dist := some (s.lens.drop s.hl), hl := 0, hd := 0, hc := 0, lens := [], hcode := none, next := 9 }
def readLit (s : M) (v n : Nat) : Res :=
  if v < 256 then
    if s.most ≤ s.total then .halt 3 else .more { put s (UInt8.ofNat v) with bits := s.bits.drop n }
  else if v = 256 then .more (close { s with bits := s.bits.drop n })
  else match base v s.wide with
    | none => .halt 2
    | some (l, x) => if s.bits.length < n + x then .halt (lack s) else .more { s with bits := s.bits.drop (n + x), matching := l + num ((s.bits.drop n).take x), next := 10 }
def readLiteral (s : M) : Res :=
  if (sym (s.lit.getD []) s.bits).2.2 ≠ 0 then .halt (bad s (sym (s.lit.getD []) s.bits).2.2) else readLit s (sym (s.lit.getD []) s.bits).1 (sym (s.lit.getD []) s.bits).2.1
/-- A match, d bytes ahead. -/
def copied (s : M) (d n : Nat) : Res :=
  if min s.hist.length s.size < d then .halt 2
  else .more { s with bits := s.bits.drop n, hist := grow s.hist d s.matching, out := s.out ++ copy s.hist d s.matching, total := s.total + s.matching, next := 9 }
def readDist (s : M) (v n : Nat) : Res :=
  match far v s.wide with
  | none => .halt 2
  | some (l, x) => if s.bits.length < n + x then .halt (lack s) else copied s (l + num ((s.bits.drop n).take x)) (n + x)
def readDistance (s : M) : Res :=
  if s.most < s.total + s.matching then .halt 3
  else if (sym (s.dist.getD []) s.bits).2.2 ≠ 0 then .halt (bad s (sym (s.dist.getD []) s.bits).2.2) else readDist s (sym (s.dist.getD []) s.bits).1 (sym (s.dist.getD []) s.bits).2.1

def step (s : M) : Res :=
  match s.next with
  | 1 => opening s
  | 2 => readSize s
  | 3 => readBytes s
  | 4 => readHlit s
  | 5 => readHdist s
  | 6 => readHclen s
  | 7 => readCodeLengths s
  | 8 => readLengths s
  | 9 => readLiteral s
  | 10 => readDistance s
  | _ => .halt 0

inductive Steps : M → M → Prop
  | refl (s : M) : Steps s s
  | cons {s t u : M} (h : step s = .more t) (k : Steps t u) : Steps s u
theorem Steps.trans {a b c : M} (h : Steps a b) (k : Steps b c) : Steps a c := by
  induction h with
  | refl => exact k
  | cons h _ ih => exact .cons h (ih k)
theorem Steps.one {a b : M} (h : step a = .more b) : Steps a b := .cons h (.refl b)
theorem Steps.snoc {a b c : M} (h : Steps a b) (k : step b = .more c) : Steps a c := h.trans (.one k)

/-- From s it comes to t, and there it ends so. -/
def Ends (s t : M) (c : Nat) : Prop := Steps s t ∧ step t = .halt c
theorem Ends.one {s t u : M} {c : Nat} (h : step s = .more t) (k : Ends t u c) : Ends s u c := ⟨.cons h k.1, k.2⟩
theorem Ends.of {s t u : M} {c : Nat} (h : Steps s t) (k : Ends t u c) : Ends s u c := ⟨h.trans k.1, k.2⟩
theorem Ends.next {s t u : M} {c : Nat} (h : Steps s t) (k : Ends s u c) : Ends t u c := by
  induction h with
  | refl => exact k
  | cons h _ ih =>
    refine ih ?_
    obtain ⟨hs, he⟩ := k
    cases hs with
    | refl => rw [h] at he; cases he
    | cons h2 k2 => rw [h] at h2; cases h2; exact ⟨k2, he⟩
theorem Ends.det {s t u : M} {c d : Nat} (h : Ends s t c) (k : Ends s u d) : t = u ∧ c = d := by
  have := k.next h.1
  obtain ⟨hs, he⟩ := this
  cases hs with
  | refl => have h2 := h.2; rw [he] at h2; cases h2; exact ⟨rfl, rfl⟩
  | cons h2 _ => have h3 := h.2; rw [h2] at h3; cases h3

/-- The machine, so many steps. -/
def run : Nat → M → M × Option Nat
  | 0, s => (s, none)
  | n + 1, s => match step s with
    | .more t => run n t
    | .halt c => (s, some c)
/-- The machine as it begins. -/
def start (wide : Bool) (size most : Nat) : M := ⟨wide, size, most, [], 0, false, [], [], 0, 1, false, 0, 0, 0, 0, [], none, false, none, none, 0⟩
end InfMath
end

section
/-
  inflate's machine: what holds of it all the time, and that it ends. No program, no dump.
-/
namespace InfMath
open BitMath CanMath TabMath WinMath

structure CodeOk (ls : List Nat) : Prop where
  len : ls.length ≤ 288
  all : ∀ x ∈ ls, x ≤ 15
  kr : kr ls ≤ 32768
theorem usable_kr {ls : List Nat} (h : usable ls = true) : CanMath.kr ls ≤ 32768 := by
  unfold usable kd at h
  by_cases h1 : 32768 < CanMath.kr ls
  · simp [h1] at h
  · omega
theorem kd_kr {ls : List Nat} {k : Nat} (h : kd ls = k) (hk : k ≠ 4) : CanMath.kr ls ≤ 32768 := by
  unfold kd at h
  by_cases h1 : 32768 < CanMath.kr ls
  · simp [h1] at h; omega
  · omega

theorem who_l (ls : List Nat) (v : Nat) : (who ls v).l = 0 ∧ (who ls v).v = 0 ∨ ∃ i, Has ls v i ∧ (who ls v).v = i ∧ (who ls v).l = ln ls i := by
  unfold who
  split
  · next i hi =>
    have h1 := List.find?_some hi
    exact .inr ⟨i, of_decide_eq_true h1, rfl, rfl⟩
  · exact .inl ⟨rfl, rfl⟩
theorem sym_ok {ls : List Nat} {bs : List Bool} (h : (sym ls bs).2.2 = 0) :
    Has ls (num (bs.take 15)) (sym ls bs).1 ∧ (sym ls bs).2.1 = ln ls (sym ls bs).1 ∧ 1 ≤ (sym ls bs).2.1 ∧ (sym ls bs).2.1 ≤ bs.length ∧ (sym ls bs).2.1 ≤ 15 ∧ (sym ls bs).1 < ls.length := by
  unfold sym at h ⊢
  by_cases h1 : (who ls (num (bs.take 15))).l = 0
  · rw [if_pos h1] at h; simp at h
  · rw [if_neg h1] at h ⊢
    by_cases h2 : min bs.length 15 < (who ls (num (bs.take 15))).l
    · rw [if_pos h2] at h; simp at h
    · rw [if_neg h2]
      rcases who_l ls (num (bs.take 15)) with hw | ⟨i, hi, h3, h4⟩
      · exact absurd hw.1 h1
      · have h5 := hi.1
        have h6 := ln_lt hi.1
        exact ⟨by rw [h3]; exact hi, by rw [h3, h4], by simp only; omega, by simp only; omega, by simp only; omega, by rw [h3]; exact h6⟩
structure Ok (s : M) : Prop where
  tot : s.total = s.hist.length
  size1 : 1 ≤ s.size
  size2 : s.size ≤ 65536
  most : s.most ≤ 1073741824
  room : s.total ≤ s.most
  outl : s.out.length ≤ s.total
  psh : s.pushed ≤ 100000000
  bnd : s.bits.length ≤ 8 * s.pushed
  next1 : 1 ≤ s.next
  next2 : s.next ≤ 11
  left : s.left ≤ 65535
  al : s.next = 3 → s.bits.length % 8 = 0
  hl : 5 ≤ s.next → s.next ≤ 8 → 257 ≤ s.hl ∧ s.hl ≤ 286
  hd : 6 ≤ s.next → s.next ≤ 8 → 1 ≤ s.hd ∧ s.hd ≤ 32
  hc : s.next = 7 → 4 ≤ s.hc ∧ s.hc ≤ 19
  l0 : 5 ≤ s.next → s.next ≤ 6 → s.lens = []
  l7 : s.next = 7 → s.lens.length ≤ s.hc ∧ ∀ x ∈ s.lens, x ≤ 7
  l8 : s.next = 8 → s.lens.length ≤ s.hl + s.hd ∧ (∀ x ∈ s.lens, x ≤ 15) ∧ ∃ hs, s.hcode = some hs ∧ CodeOk hs ∧ hs.length = 19
  lit : s.next = 9 ∨ s.next = 10 → ∃ l d, s.lit = some l ∧ s.dist = some d ∧ CodeOk l ∧ CodeOk d
  mat : s.next = 10 → 3 ≤ s.matching ∧ s.matching ≤ 65538

theorem fixL_ok : CodeOk fixL := ⟨by decide +kernel, by decide +kernel, by decide +kernel⟩
theorem fixD_ok : CodeOk fixD := ⟨by decide +kernel, by decide +kernel, by decide +kernel⟩
theorem num_take_lt (bs : List Bool) (n : Nat) : num (bs.take n) < 2 ^ n :=
  Nat.lt_of_lt_of_le (num_lt _) (Nat.pow_le_pow_right (by omega) (by simp; omega))
theorem scat_len (lens : List Nat) (i : Nat) : (scat lens i).length = 19 := by
  induction i with
  | zero => simp [scat]
  | succ i ih => simp [scat, ih]
theorem scat_all (lens : List Nat) (b : Nat) (h : ∀ x ∈ lens, x ≤ b) (i : Nat) : ∀ x ∈ scat lens i, x ≤ b := by
  induction i with
  | zero => intro x hx; simp [scat] at hx; omega
  | succ i ih =>
    intro x hx
    rcases List.mem_or_eq_of_mem_set hx with h1 | rfl
    · exact ih x h1
    · by_cases hi : i < lens.length
      · rw [List.getD_eq_getElem?_getD, List.getElem?_eq_getElem hi]; exact h _ (List.getElem_mem hi)
      · rw [List.getD_eq_getElem?_getD, List.getElem?_eq_none (by omega)]; simp
theorem base_le {v : Nat} {wide : Bool} {l x : Nat} (h : base v wide = some (l, x)) : 3 ≤ l ∧ l + 2 ^ x ≤ 65539 ∧ x ≤ 16 := by
  unfold base at h
  by_cases h1 : v < 257 ∨ 285 < v
  · rw [if_pos h1] at h; cases h
  · rw [if_neg h1] at h
    by_cases h2 : v < 265
    · rw [if_pos h2] at h
      simp only [Option.some.injEq, Prod.mk.injEq] at h
      obtain ⟨h3, rfl⟩ := h
      omega
    · rw [if_neg h2] at h
      by_cases h3 : v < 285
      · rw [if_pos h3] at h
        obtain ⟨q, hq⟩ : ∃ q, q = (v - 265) / 4 := ⟨_, rfl⟩
        rw [← hq] at h
        have hq4 : q ≤ 4 := by omega
        have hm : (v - 265) % 4 < 4 := Nat.mod_lt _ (by omega)
        generalize (v - 265) % 4 = m at *
        clear h1 h2 h3 hq
        simp only [Option.some.injEq, Prod.mk.injEq] at h
        obtain ⟨h1, rfl⟩ := h
        rcases (by omega : q = 0 ∨ q = 1 ∨ q = 2 ∨ q = 3 ∨ q = 4) with rfl | rfl | rfl | rfl | rfl <;> simp at h1 ⊢ <;> omega
      · rw [if_neg h3] at h
        cases wide
        · simp at h
          obtain ⟨rfl, rfl⟩ := h
          simp
        · simp at h
          obtain ⟨rfl, rfl⟩ := h
          simp
theorem far_le {v : Nat} {wide : Bool} {l x : Nat} (h : far v wide = some (l, x)) : 1 ≤ l ∧ l + 2 ^ x ≤ 65537 ∧ x ≤ 14 := by
  unfold far at h
  have hl : lastD wide ≤ 31 := by unfold lastD; split <;> omega
  split at h
  · cases h
  · split at h
    · cases h; omega
    · injection h with h
      injection h with h1 h2
      have hq4 : v / 2 - 1 ≤ 14 := by omega
      have hm : v % 2 < 2 := Nat.mod_lt _ (by omega)
      generalize v % 2 = m at *
      generalize v / 2 - 1 = q at *
      subst h2
      rcases (by omega : q = 0 ∨ q = 1 ∨ q = 2 ∨ q = 3 ∨ q = 4 ∨ q = 5 ∨ q = 6 ∨ q = 7 ∨ q = 8 ∨ q = 9 ∨ q = 10 ∨ q = 11 ∨ q = 12 ∨ q = 13 ∨ q = 14) with rfl | rfl | rfl | rfl | rfl | rfl | rfl | rfl | rfl | rfl | rfl | rfl | rfl | rfl | rfl <;> simp at h1 ⊢ <;> omega

section
variable {s t : M}
theorem ok_opening (h : Ok s) (_hn : s.next = 1) (e : opening s = .more t) : Ok t := by
  unfold opening at e
  obtain ⟨a1, a2, a3, a4, a5, a6, a7, a8, a9, a10, a11, a12, a13, a14, a15, a16, a17, a18, a19, a20⟩ := h
  by_cases h1 : s.bits.length < 3
  · rw [if_pos h1] at e; cases e
  · rw [if_neg h1] at e
    by_cases h2 : num (s.bits.take 3) / 2 = 0
    · rw [if_pos h2] at e; cases e
      constructor <;> simp <;> omega
    · rw [if_neg h2] at e
      by_cases h3 : num (s.bits.take 3) / 2 = 1
      · rw [if_pos h3] at e
        have hc : ∃ l d, some fixL = some l ∧ some fixD = some d ∧ CodeOk l ∧ CodeOk d := ⟨_, _, rfl, rfl, fixL_ok, fixD_ok⟩
        generalize fixL = fl at *
        generalize fixD = fd at *
        cases e
        exact ⟨a1, a2, a3, a4, a5, a6, a7, by simp; omega, by simp, by simp, a11, by simp, by simp, by simp, by simp, by simp, by simp, by simp, fun _ => hc, by simp⟩
      · rw [if_neg h3] at e
        by_cases h4 : num (s.bits.take 3) / 2 = 2
        · rw [if_pos h4] at e; cases e
          constructor <;> simp <;> omega
        · rw [if_neg h4] at e; cases e
theorem ok_readSize (h : Ok s) (hn : s.next = 2) (e : readSize s = .more t) : Ok t := by
  unfold readSize at e
  obtain ⟨a1, a2, a3, a4, a5, a6, a7, a8, a9, a10, a11, a12, a13, a14, a15, a16, a17, a18, a19, a20⟩ := h
  split at e
  · cases e
    constructor <;> simp [hn] <;> omega
  · split at e
    · cases e
    · split at e
      · cases e
      · cases e
        have := num_take_lt s.bits 16
        constructor <;> simp <;> omega
theorem ok_close (h : Ok s) (_hn : s.next = 3 ∨ s.next = 9) : Ok (close s) := by
  obtain ⟨a1, a2, a3, a4, a5, a6, a7, a8, a9, a10, a11, a12, a13, a14, a15, a16, a17, a18, a19, a20⟩ := h
  unfold close
  cases s.final
  · constructor <;> simp <;> omega
  · constructor <;> simp <;> omega
theorem ok_readBytes (h : Ok s) (hn : s.next = 3) (e : readBytes s = .more t) : Ok t := by
  unfold readBytes at e
  split at e
  · cases e; exact ok_close h (.inl hn)
  · split at e
    · cases e
    · split at e
      · cases e
      · cases e
        obtain ⟨a1, a2, a3, a4, a5, a6, a7, a8, a9, a10, a11, a12, a13, a14, a15, a16, a17, a18, a19, a20⟩ := h
        clear a13 a14 a15 a16 a17 a18 a19 a20
        constructor <;> simp [put, hn] <;> omega
theorem ok_readHlit (h : Ok s) (_hn : s.next = 4) (e : readHlit s = .more t) : Ok t := by
  unfold readHlit at e
  split at e
  · cases e
  · split at e
    · cases e
    · cases e
      obtain ⟨a1, a2, a3, a4, a5, a6, a7, a8, a9, a10, a11, a12, a13, a14, a15, a16, a17, a18, a19, a20⟩ := h
      constructor <;> simp <;> omega
theorem ok_readHdist (h : Ok s) (hn : s.next = 5) (e : readHdist s = .more t) : Ok t := by
  unfold readHdist at e
  split at e
  · cases e
  · split at e
    · cases e
    · cases e
      have hl : lastD s.wide ≤ 31 := by unfold lastD; split <;> omega
      obtain ⟨a1, a2, a3, a4, a5, a6, a7, a8, a9, a10, a11, a12, a13, a14, a15, a16, a17, a18, a19, a20⟩ := h
      have := a13 (by omega) (by omega)
      have := a16 (by omega) (by omega)
      constructor <;> simp [*] <;> omega
theorem ok_readHclen (h : Ok s) (hn : s.next = 6) (e : readHclen s = .more t) : Ok t := by
  unfold readHclen at e
  split at e
  · cases e
  · cases e
    have h4 := num_take_lt s.bits 4
    obtain ⟨a1, a2, a3, a4, a5, a6, a7, a8, a9, a10, a11, a12, a13, a14, a15, a16, a17, a18, a19, a20⟩ := h
    have := a13 (by omega) (by omega)
    have := a14 (by omega) (by omega)
    have := a16 (by omega) (by omega)
    constructor <;> simp [*] <;> omega
theorem ok_readCodeLengths (h : Ok s) (hn : s.next = 7) (e : readCodeLengths s = .more t) : Ok t := by
  unfold readCodeLengths at e
  split at e
  · split at e
    · cases e
    · cases e
      have h4 := num_take_lt s.bits 3
      obtain ⟨a1, a2, a3, a4, a5, a6, a7, a8, a9, a10, a11, a12, a13, a14, a15, a16, a17, a18, a19, a20⟩ := h
      have b1 := a13 (by omega) (by omega)
      have b2 := a14 (by omega) (by omega)
      have b3 := a17 hn
      have b4 := a15 hn
      refine ⟨a1, a2, a3, a4, a5, a6, a7, by simp; omega, a9, a10, a11, by simp [hn], fun _ _ => b1, fun _ _ => b2, fun _ => b4, by simp [hn], fun _ => ⟨by simp; omega, fun x hx => ?_⟩, by simp [hn], by simp [hn], by simp [hn]⟩
      simp only [List.mem_append, List.mem_singleton] at hx
      rcases hx with hx | rfl
      · exact b3.2 x hx
      · omega
  · split at e
    · cases e
    · next hk =>
      cases e
      obtain ⟨a1, a2, a3, a4, a5, a6, a7, a8, a9, a10, a11, a12, a13, a14, a15, a16, a17, a18, a19, a20⟩ := h
      have b1 := a13 (by omega) (by omega)
      have b2 := a14 (by omega) (by omega)
      have b3 := a17 hn
      refine ⟨a1, a2, a3, a4, a5, a6, a7, a8, by simp, by simp, a11, by simp, fun _ _ => b1, fun _ _ => b2, by simp, by simp, by simp, fun _ => ⟨by simp, by simp, _, rfl, ⟨by rw [scat_len]; omega, fun x hx => ?_, ?_⟩, scat_len _ _⟩, by simp, by simp⟩
      · have := scat_all s.lens 7 b3.2 _ x hx; omega
      · have hk1 : kd (scat s.lens s.lens.length) = 1 := by omega
        exact kd_kr hk1 (by omega)
theorem ok_readLen (h : Ok s) (hn : s.next = 8) (v n : Nat) (hv : v < 19) (e : readLen s v n = .more t) : Ok t := by
  unfold readLen at e
  split at e
  · cases e
  · split at e
    · cases e
    · split at e
      · cases e
      · cases e
        obtain ⟨a1, a2, a3, a4, a5, a6, a7, a8, a9, a10, a11, a12, a13, a14, a15, a16, a17, a18, a19, a20⟩ := h
        have b1 := a13 (by omega) (by omega)
        have b2 := a14 (by omega) (by omega)
        obtain ⟨b3, b4, b5⟩ := a18 hn
        refine ⟨a1, a2, a3, a4, a5, a6, a7, by simp; omega, a9, a10, a11, by simp [hn], fun _ _ => b1, fun _ _ => b2, by simp [hn], by simp [hn], by simp [hn], fun _ => ⟨by simp; omega, fun x hx => ?_, b5⟩, by simp [hn], by simp [hn]⟩
        simp only [List.mem_append, List.mem_replicate] at hx
        rcases hx with hx | ⟨_, rfl⟩
        · exact b4 x hx
        · unfold length_
          split
          · by_cases hl : s.lens = []
            · simp [hl]
            · rw [List.getLastD_eq_getLast?, List.getLast?_eq_some_getLast hl]; exact b4 _ (List.getLast_mem hl)
          · repeat' split
            all_goals omega
theorem ok_readLengths (h : Ok s) (hn : s.next = 8) (e : readLengths s = .more t) : Ok t := by
  unfold readLengths at e
  split at e
  · unfold readLength at e
    split at e
    · cases e
    · next hc =>
      obtain ⟨_, _, hs, hhs, _, hl⟩ := h.l8 hn
      have := (sym_ok (ls := s.hcode.getD []) (bs := s.bits) (by omega)).2.2.2.2.2
      rw [hhs] at this
      simp only [Option.getD_some] at this
      exact ok_readLen h hn _ _ (by rw [hhs]; simp only [Option.getD_some]; omega) e
  · split at e
    · cases e
    · next hg =>
      cases e
      obtain ⟨a1, a2, a3, a4, a5, a6, a7, a8, a9, a10, a11, a12, a13, a14, a15, a16, a17, a18, a19, a20⟩ := h
      obtain ⟨b3, b4, b5⟩ := a18 hn
      have b1 := a13 (by omega) (by omega)
      have b2 := a14 (by omega) (by omega)
      simp only [goodCodes, Bool.not_eq_false, Bool.and_eq_true, Bool.or_eq_true, beq_iff_eq] at hg
      refine ⟨a1, a2, a3, a4, a5, a6, a7, a8, by simp, by simp, a11, by simp, by simp, by simp, by simp, by simp, by simp, by simp, fun _ => ⟨_, _, rfl, rfl, ⟨by simp; omega, fun x hx => b4 x (List.mem_of_mem_take hx), usable_kr hg.1.2⟩, by simp; omega, fun x hx => b4 x (List.mem_of_mem_drop hx), ?_⟩, by simp⟩
      rcases hg.2 with hg | hg
      · exact kd_kr hg (by omega)
      · exact usable_kr hg
theorem ok_readLiteral (h : Ok s) (hn : s.next = 9) (e : readLiteral s = .more t) : Ok t := by
  unfold readLiteral at e
  split at e
  · cases e
  · unfold readLit at e
    generalize (sym (s.lit.getD []) s.bits).1 = v at *
    generalize (sym (s.lit.getD []) s.bits).2.1 = n at *
    split at e
    · split at e
      · cases e
      · cases e
        obtain ⟨a1, a2, a3, a4, a5, a6, a7, a8, a9, a10, a11, a12, a13, a14, a15, a16, a17, a18, a19, a20⟩ := h
        refine ⟨by simp [put]; omega, a2, a3, a4, by simp [put]; omega, by simp [put]; omega, a7, by simp [put]; omega, a9, a10, a11, by simp [put, hn], by simp [put, hn], by simp [put, hn], by simp [put, hn], by simp [put, hn], by simp [put, hn], by simp [put, hn], a19, by simp [put, hn]⟩
    · split at e
      · cases e
        refine ok_close ?_ (.inr hn)
        obtain ⟨a1, a2, a3, a4, a5, a6, a7, a8, a9, a10, a11, a12, a13, a14, a15, a16, a17, a18, a19, a20⟩ := h
        exact ⟨a1, a2, a3, a4, a5, a6, a7, by simp; omega, a9, a10, a11, by simp [hn], by simp [hn], by simp [hn], by simp [hn], by simp [hn], by simp [hn], by simp [hn], a19, by simp [hn]⟩
      · split at e
        · cases e
        · next l x hb =>
          split at e
          · cases e
          · cases e
            obtain ⟨a1, a2, a3, a4, a5, a6, a7, a8, a9, a10, a11, a12, a13, a14, a15, a16, a17, a18, a19, a20⟩ := h
            obtain ⟨c1, c2, c3⟩ := base_le hb
            have c4 := num_take_lt (s.bits.drop n) x
            exact ⟨a1, a2, a3, a4, a5, a6, a7, by simp; omega, by simp, by simp, a11, by simp, by simp, by simp, by simp, by simp, by simp, by simp, fun _ => a19 (.inl hn), fun _ => ⟨by simp; omega, by simp; omega⟩⟩
theorem ok_readDistance (h : Ok s) (hn : s.next = 10) (e : readDistance s = .more t) : Ok t := by
  unfold readDistance at e
  split at e
  · cases e
  · split at e
    · cases e
    · unfold readDist at e
      split at e
      · cases e
      · split at e
        · cases e
        · unfold copied at e
          split at e
          · cases e
          · cases e
            obtain ⟨a1, a2, a3, a4, a5, a6, a7, a8, a9, a10, a11, a12, a13, a14, a15, a16, a17, a18, a19, a20⟩ := h
            exact ⟨by simp [grow_len]; omega, a2, a3, a4, by simp; omega, by simp [copy_len]; omega, a7, by simp; omega, by simp, by simp, a11, by simp, by simp, by simp, by simp, by simp, by simp, by simp, fun _ => a19 (.inr hn), by simp⟩
theorem Ok.step (h : Ok s) (e : step s = .more t) : Ok t := by
  unfold InfMath.step at e
  split at e
  · next hn => exact ok_opening h hn e
  · next hn => exact ok_readSize h hn e
  · next hn => exact ok_readBytes h hn e
  · next hn => exact ok_readHlit h hn e
  · next hn => exact ok_readHdist h hn e
  · next hn => exact ok_readHclen h hn e
  · next hn => exact ok_readCodeLengths h hn e
  · next hn => exact ok_readLengths h hn e
  · next hn => exact ok_readLiteral h hn e
  · next hn => exact ok_readDistance h hn e
  · cases e
end

/-- How far it is to the end. -/
def rank (n : Nat) : Nat := if n = 3 then 1 else if n = 7 then 2 else if n = 8 then 1 else 0
def mu (s : M) : Nat := 8 * s.bits.length + rank s.next
end InfMath
end

section
/-
  inflate's machine: with more room, with more bits behind. No program, no dump.
-/
namespace InfMath
open BitMath CanMath TabMath WinMath

/-! ### an end without an error -/
theorem lack_ne (s : M) : lack s ≠ 0 := by unfold lack; split <;> decide
theorem bad_ne (s : M) (c : Nat) (h : c ≠ 0) : bad s c ≠ 0 := by unfold bad; split; exact lack_ne s; exact h
theorem over_halts {s : M} (h : s.next = 11) : step s = .halt 0 := by unfold step; rw [h]; rfl

/-! ### more room -/
end InfMath
end

section
/-
  inflate's machine with more bits behind. No program, no dump.
-/
namespace InfMath
open BitMath CanMath TabMath WinMath

abbrev ext (s : M) (z : List Bool) : M := { s with bits := s.bits ++ z }

theorem take_ext {bs z : List Bool} {n : Nat} (h : n ≤ bs.length) : (bs ++ z).take n = bs.take n := List.take_append_of_le_length h
theorem num_mod_take (bs : List Bool) (a : Nat) : num bs % 2 ^ a = num (bs.take a) := by
  by_cases h : a ≤ bs.length
  · have e : num bs = num (bs.take a ++ bs.drop a) := by rw [List.take_append_drop]
    have hl : (bs.take a).length = a := by simp; omega
    rw [e, num_append, hl, Nat.add_mul_mod_self_left, Nat.mod_eq_of_lt]
    have := num_lt (bs.take a); rw [hl] at this; exact this
  · rw [List.take_of_length_le (by omega), Nat.mod_eq_of_lt]
    exact Nat.lt_of_lt_of_le (num_lt _) (Nat.pow_le_pow_right (by omega) (by omega))

/-- Codes that tell the end of what is no code. -/
def Tells (ls : List Nat) : Prop := kd ls ≤ 2
/-- The codes in use are good ones. -/
structure Gd (s : M) : Prop where
  hc : s.next = 8 → ∃ hs, s.hcode = some hs ∧ Tells hs
  ld : s.next = 9 ∨ s.next = 10 → ∃ l d, s.lit = some l ∧ s.dist = some d ∧ Tells l ∧ Tells d
end InfMath
end

section
/-
  inflate's machine, token by token, over the bits of bytes that are all there. No program, no dump.
-/
namespace InfMath
open BitMath CanMath TabMath WinMath

/-- The machine stands at bit p of l, these bytes came out. -/
structure Bd (l : List UInt8) (p : Nat) (out : List UInt8) (wide : Bool) (S most : Nat) (s : M) : Prop where
  eb : s.bits = (bitsOf l).drop p
  eh : s.hist = out
  eo : s.out = out
  et : s.total = out.length
  ew : s.wide = wide
  es : s.size = S
  em : s.most = most
  ep : s.pushed = l.length
/-- It comes to an end that is an error. -/
def Bad (s : M) : Prop := ∃ t c, Ends s t c ∧ c ≠ 0
theorem Bad.now {s : M} {c : Nat} (h : step s = .halt c) (hc : c ≠ 0) : Bad s := ⟨s, c, ⟨.refl s, h⟩, hc⟩
theorem Bad.of {s t : M} (h : Steps s t) (k : Bad t) : Bad s := by
  obtain ⟨u, c, hu, hc⟩ := k
  exact ⟨u, c, .of h hu, hc⟩
structure St9 (l : List UInt8) (p : Nat) (out : List UInt8) (wide : Bool) (S most : Nat) (ls ds : List Nat) (fin : Bool) (s : M) : Prop where
  bd : Bd l p out wide S most s
  next : s.next = 9
  lit : s.lit = some ls
  dist : s.dist = some ds
  final : s.final = fin
structure St10 (l : List UInt8) (p : Nat) (out : List UInt8) (wide : Bool) (S most : Nat) (ls ds : List Nat) (fin : Bool) (m : Nat) (s : M) : Prop where
  bd : Bd l p out wide S most s
  next : s.next = 10
  lit : s.lit = some ls
  dist : s.dist = some ds
  final : s.final = fin
  mat : s.matching = m
/-- Behind a block. -/
structure St1 (l : List UInt8) (p : Nat) (out : List UInt8) (wide : Bool) (S most : Nat) (fin : Bool) (s : M) : Prop where
  bd : Bd l p out wide S most s
  next : s.next = if fin then 11 else 1
  final : s.final = fin

section
variable {l : List UInt8} {p : Nat} {out : List UInt8} {wide : Bool} {S most : Nat} {ls ds : List Nat} {fin : Bool} {s : M} {m : Nat}
theorem St9.step_ (h : St9 l p out wide S most ls ds fin s) : step s = readLiteral s := by unfold step; rw [h.next]; rfl
theorem St10.step_ (h : St10 l p out wide S most ls ds fin m s) : step s = readDistance s := by unfold step; rw [h.next]; rfl
theorem tk_err (h : St9 l p out wide S most ls ds fin s) (he : (sym ls ((bitsOf l).drop p)).2.2 ≠ 0) : Bad s := by
  refine .now (c := bad s (sym ls ((bitsOf l).drop p)).2.2) ?_ (bad_ne _ _ he)
  rw [h.step_]
  unfold readLiteral
  rw [h.lit, h.bd.eb]
  simp only [Option.getD_some]
  rw [if_pos he]
theorem tk_lit_ (h : St9 l p out wide S most ls ds fin s) (he : (sym ls ((bitsOf l).drop p)).2.2 = 0) : step s = readLit s (sym ls ((bitsOf l).drop p)).1 (sym ls ((bitsOf l).drop p)).2.1 := by
  rw [h.step_]
  unfold readLiteral
  rw [h.lit, h.bd.eb]
  simp only [Option.getD_some]
  rw [if_neg (by rw [he]; decide)]
variable {v n : Nat}
theorem tk_full (h : St9 l p out wide S most ls ds fin s) (he : sym ls ((bitsOf l).drop p) = (v, n, 0)) (hv : v < 256) (hm : most ≤ out.length) : Bad s := by
  have h1 := tk_lit_ h (by rw [he])
  rw [he] at h1
  refine .now (c := 3) ?_ (by decide)
  rw [h1]
  simp only
  unfold readLit
  rw [if_pos hv, if_pos (by rw [h.bd.em, h.bd.et]; exact hm)]
theorem tk_lit (h : St9 l p out wide S most ls ds fin s) (he : sym ls ((bitsOf l).drop p) = (v, n, 0)) (hv : v < 256) (hm : ¬ most ≤ out.length) : ∃ s', Steps s s' ∧ St9 l (p + n) (out ++ [UInt8.ofNat v]) wide S most ls ds fin s' := by
  have h1 := tk_lit_ h (by rw [he])
  rw [he] at h1
  simp only at h1
  unfold readLit at h1
  rw [if_pos hv, if_neg (by rw [h.bd.em, h.bd.et]; exact hm)] at h1
  refine ⟨_, .one h1, ⟨?_, h.next, h.lit, h.dist, h.final⟩⟩
  obtain ⟨b1, b2, b3, b4, b5, b6, b7, b8⟩ := h.bd
  exact ⟨by show s.bits.drop n = _; rw [b1, List.drop_drop], by show s.hist ++ _ = _; rw [b2], by show s.out ++ _ = _; rw [b3], by show s.total + 1 = _; rw [b4]; simp, (by first | exact b5 | rfl), b6, b7, b8⟩
theorem tk_end (h : St9 l p out wide S most ls ds fin s) (he : sym ls ((bitsOf l).drop p) = (256, n, 0)) : ∃ s', Steps s s' ∧ St1 l (p + n) out wide S most fin s' := by
  have h1 := tk_lit_ h (by rw [he])
  rw [he] at h1
  simp only at h1
  unfold readLit at h1
  rw [if_neg (by omega), if_pos rfl] at h1
  refine ⟨_, .one h1, ⟨?_, by simp only [close, h.final], h.final⟩⟩
  obtain ⟨b1, b2, b3, b4, b5, b6, b7, b8⟩ := h.bd
  exact ⟨by simp only [close]; rw [b1, List.drop_drop], b2, b3, b4, (by first | exact b5 | rfl), b6, b7, b8⟩
theorem tk_nobase (h : St9 l p out wide S most ls ds fin s) (he : sym ls ((bitsOf l).drop p) = (v, n, 0)) (hv : 256 < v) (hb : base v wide = none) : Bad s := by
  have h1 := tk_lit_ h (by rw [he])
  rw [he] at h1
  simp only at h1
  unfold readLit at h1
  rw [if_neg (by omega), if_neg (by omega), h.bd.ew, hb] at h1
  exact .now h1 (by decide)
variable {b x : Nat}
theorem tk_short (h : St9 l p out wide S most ls ds fin s) (he : sym ls ((bitsOf l).drop p) = (v, n, 0)) (hv : 256 < v) (hb : base v wide = some (b, x)) (hl : 8 * l.length - p < n + x) : Bad s := by
  have h1 := tk_lit_ h (by rw [he])
  rw [he] at h1
  simp only at h1
  unfold readLit at h1
  rw [if_neg (by omega), if_neg (by omega), h.bd.ew, hb] at h1
  simp only at h1
  rw [if_pos (by rw [h.bd.eb, List.length_drop, bitsOf_len]; exact hl)] at h1
  exact .now h1 (lack_ne _)
theorem tk_match (h : St9 l p out wide S most ls ds fin s) (he : sym ls ((bitsOf l).drop p) = (v, n, 0)) (hv : 256 < v) (hb : base v wide = some (b, x)) (hl : ¬ 8 * l.length - p < n + x) : ∃ s', Steps s s' ∧ St10 l (p + n + x) out wide S most ls ds fin (b + num (((bitsOf l).drop (p + n)).take x)) s' := by
  have h1 := tk_lit_ h (by rw [he])
  rw [he] at h1
  simp only at h1
  unfold readLit at h1
  rw [if_neg (by omega), if_neg (by omega), h.bd.ew, hb] at h1
  simp only at h1
  rw [if_neg (by rw [h.bd.eb, List.length_drop, bitsOf_len]; exact hl)] at h1
  refine ⟨_, .one h1, ⟨?_, rfl, h.lit, h.dist, h.final, ?_⟩⟩
  · obtain ⟨b1, b2, b3, b4, b5, b6, b7, b8⟩ := h.bd
    exact ⟨by simp only; rw [b1, List.drop_drop, Nat.add_assoc], b2, b3, b4, (by first | exact b5 | rfl), b6, b7, b8⟩
  · simp only; rw [h.bd.eb, List.drop_drop]
theorem td_ (h : St10 l p out wide S most ls ds fin m s) : step s = if most < out.length + m then .halt 3 else if (sym ds ((bitsOf l).drop p)).2.2 ≠ 0 then .halt (bad s (sym ds ((bitsOf l).drop p)).2.2) else readDist s (sym ds ((bitsOf l).drop p)).1 (sym ds ((bitsOf l).drop p)).2.1 := by
  rw [h.step_]
  unfold readDistance
  rw [h.bd.em, h.bd.et, h.mat, h.dist, h.bd.eb]
  simp only [Option.getD_some]
theorem td_over (h : St10 l p out wide S most ls ds fin m s) (hm : most < out.length + m) : Bad s := by
  have h1 := td_ h
  rw [if_pos hm] at h1
  exact .now h1 (by decide)
theorem td_err (h : St10 l p out wide S most ls ds fin m s) (he : (sym ds ((bitsOf l).drop p)).2.2 ≠ 0) : Bad s := by
  by_cases hm : most < out.length + m
  · exact td_over h hm
  · have h1 := td_ h
    rw [if_neg hm, if_pos he] at h1
    exact .now h1 (bad_ne _ _ he)
theorem td_dist (h : St10 l p out wide S most ls ds fin m s) (he : sym ds ((bitsOf l).drop p) = (v, n, 0)) (hm : ¬ most < out.length + m) : step s = readDist s v n := by
  have h1 := td_ h
  rw [if_neg hm, he] at h1
  simpa using h1
theorem td_nofar (h : St10 l p out wide S most ls ds fin m s) (he : sym ds ((bitsOf l).drop p) = (v, n, 0)) (hb : far v wide = none) : Bad s := by
  by_cases hm : most < out.length + m
  · exact td_over h hm
  · have h1 := td_dist h he hm
    unfold readDist at h1
    rw [h.bd.ew, hb] at h1
    exact .now h1 (by decide)
theorem td_short (h : St10 l p out wide S most ls ds fin m s) (he : sym ds ((bitsOf l).drop p) = (v, n, 0)) (hb : far v wide = some (b, x)) (hl : 8 * l.length - p < n + x) : Bad s := by
  by_cases hm : most < out.length + m
  · exact td_over h hm
  · have h1 := td_dist h he hm
    unfold readDist at h1
    rw [h.bd.ew, hb] at h1
    simp only at h1
    rw [if_pos (by rw [h.bd.eb, List.length_drop, bitsOf_len]; exact hl)] at h1
    exact .now h1 (lack_ne _)
theorem td_copied (h : St10 l p out wide S most ls ds fin m s) (he : sym ds ((bitsOf l).drop p) = (v, n, 0)) (hb : far v wide = some (b, x)) (hl : ¬ 8 * l.length - p < n + x) (hm : ¬ most < out.length + m) : step s = copied s (b + num (((bitsOf l).drop (p + n)).take x)) (n + x) := by
  have h1 := td_dist h he hm
  unfold readDist at h1
  rw [h.bd.ew, hb] at h1
  simp only at h1
  rw [if_neg (by rw [h.bd.eb, List.length_drop, bitsOf_len]; exact hl), h.bd.eb, List.drop_drop] at h1
  exact h1
theorem td_far (h : St10 l p out wide S most ls ds fin m s) (he : sym ds ((bitsOf l).drop p) = (v, n, 0)) (hb : far v wide = some (b, x)) (hl : ¬ 8 * l.length - p < n + x) (hd : min out.length S < b + num (((bitsOf l).drop (p + n)).take x)) : Bad s := by
  by_cases hm : most < out.length + m
  · exact td_over h hm
  · have h1 := td_copied h he hb hl hm
    unfold copied at h1
    rw [if_pos (by rw [h.bd.eh, h.bd.es]; exact hd)] at h1
    exact .now h1 (by decide)
theorem td_ok (h : St10 l p out wide S most ls ds fin m s) (he : sym ds ((bitsOf l).drop p) = (v, n, 0)) (hb : far v wide = some (b, x)) (hl : ¬ 8 * l.length - p < n + x) (hd : ¬ min out.length S < b + num (((bitsOf l).drop (p + n)).take x)) (hm : ¬ most < out.length + m) :
    ∃ s', Steps s s' ∧ St9 l (p + n + x) (grow out (b + num (((bitsOf l).drop (p + n)).take x)) m) wide S most ls ds fin s' := by
  have h1 := td_copied h he hb hl hm
  unfold copied at h1
  rw [if_neg (by rw [h.bd.eh, h.bd.es]; exact hd)] at h1
  refine ⟨_, .one h1, ⟨?_, rfl, h.lit, h.dist, h.final⟩⟩
  obtain ⟨b1, b2, b3, b4, b5, b6, b7, b8⟩ := h.bd
  exact ⟨by simp only; rw [b1, List.drop_drop, Nat.add_assoc], by simp only; rw [b2, h.mat], by simp only; rw [b2, b3, h.mat, ← grow_copy], by simp only; rw [b4, h.mat, grow_len], (by first | exact b5 | rfl), b6, b7, b8⟩
end
end InfMath
end

section
/-
  inflate's machine, block by block (beginnings, stored blocks), over the bits of bytes that are all there. No program, no dump.
-/
namespace InfMath
open BitMath CanMath TabMath WinMath

/-- At a block's beginning, or behind its first bits: which step is next. -/
structure Stn (k : Nat) (l : List UInt8) (p : Nat) (out : List UInt8) (wide : Bool) (S most : Nat) (fin : Bool) (s : M) : Prop where
  bd : Bd l p out wide S most s
  next : s.next = k
  final : s.final = fin
structure St3 (l : List UInt8) (p : Nat) (out : List UInt8) (wide : Bool) (S most : Nat) (fin : Bool) (k : Nat) (s : M) : Prop where
  bd : Bd l p out wide S most s
  next : s.next = 3
  final : s.final = fin
  left : s.left = k
section
variable {l : List UInt8} {p : Nat} {out : List UInt8} {wide : Bool} {S most : Nat} {fin : Bool} {s : M} {k : Nat}
theorem Bd.len (h : Bd l p out wide S most s) : s.bits.length = 8 * l.length - p := by rw [h.eb, List.length_drop, bitsOf_len]
theorem Bd.at_ (h : Bd l p out wide S most s) (n : Nat) : s.bits.drop n = (bitsOf l).drop (p + n) := by rw [h.eb, List.drop_drop]
theorem take3 (bs : List Bool) (h : 3 ≤ bs.length) : num (bs.take 3) = num (bs.take 1) + 2 * num ((bs.drop 1).take 2) := by
  match bs, h with
  | a :: b :: c :: t, _ => simp [num]
theorem open_short (h : Stn 1 l p out wide S most fin s) (hl : 8 * l.length - p < 3) : Bad s := by
  refine .now (c := lack s) ?_ (lack_ne s)
  have : step s = opening s := by unfold step; rw [h.next]; rfl
  rw [this]
  unfold opening
  rw [if_pos (by rw [h.bd.len]; exact hl)]
theorem open_ (h : Stn 1 l p out wide S most fin s) (hl : ¬ 8 * l.length - p < 3) {a b : Nat} (ha : num (((bitsOf l).drop p).take 1) = a) (hb : num (((bitsOf l).drop (p + 1)).take 2) = b) :
    (b = 0 → ∃ s', Steps s s' ∧ Stn 2 l (p + 3) out wide S most (a == 1) s') ∧
    (b = 1 → ∃ s', Steps s s' ∧ St9 l (p + 3) out wide S most fixL fixD (a == 1) s') ∧
    (b = 2 → ∃ s', Steps s s' ∧ Stn 4 l (p + 3) out wide S most (a == 1) s') ∧
    (b = 3 → Bad s) := by
  have h0 : step s = opening s := by unfold step; rw [h.next]; rfl
  have ha1 : a < 2 := by
    rw [← ha]
    have hle : (((bitsOf l).drop p).take 1).length ≤ 1 := by rw [List.length_take]; omega
    exact Nat.lt_of_lt_of_le (num_lt _) (Nat.pow_le_pow_right (n := 2) (by omega) hle)
  have h3 : num (s.bits.take 3) = a + 2 * b := by
    rw [take3 _ (by rw [h.bd.len]; omega), h.bd.eb, List.drop_drop, ha, hb]
  have hd := h.bd.at_ 3
  have hq : (a + 2 * b) / 2 = b := by omega
  have hm : (a + 2 * b) % 2 = a := by omega
  unfold opening at h0
  rw [if_neg (by rw [h.bd.len]; exact hl), h3, hd, hq, hm] at h0
  have hbd : ∀ (t : M), t.bits = (bitsOf l).drop (p + 3) → t.hist = s.hist → t.out = s.out → t.total = s.total → t.wide = s.wide → t.size = s.size → t.most = s.most → t.pushed = s.pushed → Bd l (p + 3) out wide S most t := fun t e1 e2 e3 e4 e5 e6 e7 e8 =>
    ⟨e1, e2.trans h.bd.eh, e3.trans h.bd.eo, e4.trans h.bd.et, e5.trans h.bd.ew, e6.trans h.bd.es, e7.trans h.bd.em, e8.trans h.bd.ep⟩
  refine ⟨fun e => ?_, fun e => ?_, fun e => ?_, fun e => ?_⟩
  · subst e
    rw [if_pos rfl] at h0
    exact ⟨_, .one h0, hbd _ rfl rfl rfl rfl rfl rfl rfl rfl, rfl, rfl⟩
  · subst e
    rw [if_neg (by omega), if_pos rfl] at h0
    exact ⟨_, .one h0, hbd _ rfl rfl rfl rfl rfl rfl rfl rfl, rfl, rfl, rfl, rfl⟩
  · subst e
    rw [if_neg (by omega), if_neg (by omega), if_pos rfl] at h0
    exact ⟨_, .one h0, hbd _ rfl rfl rfl rfl rfl rfl rfl rfl, rfl, rfl⟩
  · subst e
    rw [if_neg (by omega), if_neg (by omega), if_neg (by omega)] at h0
    exact .now h0 (by decide)

/-- The rest of a byte is skipped. -/
theorem skip_ (h : Stn 2 l p out wide S most fin s) (hp : p ≤ 8 * l.length) : ∃ s', Steps s s' ∧ Stn 2 l ((p + 7) / 8 * 8) out wide S most fin s' := by
  have h0 : step s = readSize s := by unfold step; rw [h.next]; rfl
  by_cases he : (8 * l.length - p) % 8 = 0
  · refine ⟨s, .refl s, ?_⟩
    rw [show (p + 7) / 8 * 8 = p from by omega]
    exact h
  · unfold readSize at h0
    rw [h.bd.len, if_pos he, h.bd.at_] at h0
    rw [show (p + 7) / 8 * 8 = p + (8 * l.length - p) % 8 from by omega]
    exact ⟨_, .one h0, ⟨rfl, h.bd.eh, h.bd.eo, h.bd.et, h.bd.ew, h.bd.es, h.bd.em, h.bd.ep⟩, h.next, h.final⟩
theorem size_short (h : Stn 2 l p out wide S most fin s) (hp : (8 * l.length - p) % 8 = 0) (hl : 8 * l.length - p < 32) : Bad s := by
  have h0 : step s = readSize s := by unfold step; rw [h.next]; rfl
  refine .now (c := lack s) ?_ (lack_ne s)
  rw [h0]
  unfold readSize
  rw [h.bd.len, if_neg (by omega), if_pos hl]
theorem size_bad (h : Stn 2 l p out wide S most fin s) (hp : (8 * l.length - p) % 8 = 0) (hl : ¬ 8 * l.length - p < 32) (hn : num (((bitsOf l).drop (p + 16)).take 16) + num (((bitsOf l).drop p).take 16) ≠ 65535) : Bad s := by
  have h0 : step s = readSize s := by unfold step; rw [h.next]; rfl
  refine .now (c := 2) ?_ (by decide)
  rw [h0]
  unfold readSize
  rw [h.bd.len, if_neg (by omega), if_neg hl, if_pos (by rw [h.bd.at_, h.bd.eb]; exact hn)]
theorem size_ok (h : Stn 2 l p out wide S most fin s) (hp : (8 * l.length - p) % 8 = 0) (hl : ¬ 8 * l.length - p < 32) (hn : num (((bitsOf l).drop (p + 16)).take 16) + num (((bitsOf l).drop p).take 16) = 65535) :
    ∃ s', Steps s s' ∧ St3 l (p + 32) out wide S most fin (num (((bitsOf l).drop p).take 16)) s' := by
  have h0 : step s = readSize s := by unfold step; rw [h.next]; rfl
  unfold readSize at h0
  rw [h.bd.len, if_neg (by omega), if_neg hl, if_neg (by rw [h.bd.at_, h.bd.eb]; simpa using hn), h.bd.at_] at h0
  exact ⟨_, .one h0, ⟨rfl, h.bd.eh, h.bd.eo, h.bd.et, h.bd.ew, h.bd.es, h.bd.em, h.bd.ep⟩, rfl, h.final, by simp only; rw [h.bd.eb]⟩
theorem St3.step_ (h : St3 l p out wide S most fin k s) : step s = readBytes s := by unfold step; rw [h.next]; rfl
theorem bytes_end (h : St3 l p out wide S most fin 0 s) : ∃ s', Steps s s' ∧ St1 l p out wide S most fin s' := by
  have h0 := h.step_
  unfold readBytes at h0
  rw [if_pos h.left] at h0
  exact ⟨_, .one h0, ⟨h.bd.eb, h.bd.eh, h.bd.eo, h.bd.et, h.bd.ew, h.bd.es, h.bd.em, h.bd.ep⟩, by simp only [close, h.final], h.final⟩
theorem bytes_short (h : St3 l p out wide S most fin k s) (hk : k ≠ 0) (hl : 8 * l.length - p < 8) : Bad s := by
  refine .now (c := lack s) ?_ (lack_ne s)
  rw [h.step_]
  unfold readBytes
  rw [if_neg (by rw [h.left]; exact hk), if_pos (by rw [h.bd.len]; exact hl)]
theorem bytes_full (h : St3 l p out wide S most fin k s) (hk : k ≠ 0) (hm : most ≤ out.length) : Bad s := by
  by_cases hl : 8 * l.length - p < 8
  · exact bytes_short h hk hl
  · refine .now (c := 3) ?_ (by decide)
    rw [h.step_]
    unfold readBytes
    rw [if_neg (by rw [h.left]; exact hk), if_neg (by rw [h.bd.len]; exact hl), if_pos (by rw [h.bd.em, h.bd.et]; exact hm)]
theorem bytes_one (h : St3 l p out wide S most fin (k + 1) s) (hl : ¬ 8 * l.length - p < 8) (hm : ¬ most ≤ out.length) :
    ∃ s', Steps s s' ∧ St3 l (p + 8) (out ++ [UInt8.ofNat (num (((bitsOf l).drop p).take 8))]) wide S most fin k s' := by
  have h0 := h.step_
  unfold readBytes at h0
  rw [if_neg (by rw [h.left]; omega), if_neg (by rw [h.bd.len]; exact hl), if_neg (by rw [h.bd.em, h.bd.et]; exact hm), h.bd.at_, h.bd.eb] at h0
  refine ⟨_, .one h0, ⟨rfl, ?_, ?_, ?_, h.bd.ew, h.bd.es, h.bd.em, h.bd.ep⟩, h.next, h.final, by simp only; rw [h.left]; omega⟩
  · show s.hist ++ _ = _; rw [h.bd.eh]
  · show s.out ++ _ = _; rw [h.bd.eo]
  · show s.total + 1 = _; rw [h.bd.et]; simp
end
end InfMath
end

section
/-
  inflate's machine over the head of a block with codes of its own, over the bits of bytes that are all there. No program, no dump.
-/
namespace InfMath
open BitMath CanMath TabMath WinMath

structure St7 (l : List UInt8) (p : Nat) (out : List UInt8) (wide : Bool) (S most : Nat) (fin : Bool) (hl hd hc : Nat) (L : List Nat) (s : M) : Prop where
  bd : Bd l p out wide S most s
  next : s.next = 7
  final : s.final = fin
  ehl : s.hl = hl
  ehd : s.hd = hd
  ehc : s.hc = hc
  lens : s.lens = L
structure St8 (l : List UInt8) (p : Nat) (out : List UInt8) (wide : Bool) (S most : Nat) (fin : Bool) (hl hd : Nat) (cl L : List Nat) (s : M) : Prop where
  bd : Bd l p out wide S most s
  next : s.next = 8
  final : s.final = fin
  ehl : s.hl = hl
  ehd : s.hd = hd
  code : s.hcode = some cl
  lens : s.lens = L
section
variable {l : List UInt8} {p : Nat} {out : List UInt8} {wide : Bool} {S most : Nat} {fin : Bool} {s : M} {hl hd hc : Nat} {cl L : List Nat}
theorem Bd.to (h : Bd l p out wide S most s) {t : M} {q : Nat} (e1 : t.bits = (bitsOf l).drop q) (e2 : t.hist = s.hist) (e3 : t.out = s.out) (e4 : t.total = s.total) (e5 : t.wide = s.wide) (e6 : t.size = s.size) (e7 : t.most = s.most) (e8 : t.pushed = s.pushed) : Bd l q out wide S most t :=
  ⟨e1, e2.trans h.eh, e3.trans h.eo, e4.trans h.et, e5.trans h.ew, e6.trans h.es, e7.trans h.em, e8.trans h.ep⟩
/-- HLIT. -/
theorem hlit_short (h : Stn 4 l p out wide S most fin s) (hs : 8 * l.length - p < 5) : Bad s := by
  have h0 : step s = readHlit s := by unfold step; rw [h.next]; rfl
  unfold readHlit at h0
  rw [if_pos (by rw [h.bd.len]; exact hs)] at h0
  exact .now h0 (lack_ne s)
theorem hlit_bad (h : Stn 4 l p out wide S most fin s) {a : Nat} (ha : num (((bitsOf l).drop p).take 5) = a) (hs : 29 < a) : Bad s := by
  by_cases hl : 8 * l.length - p < 5
  · exact hlit_short h hl
  · have h0 : step s = readHlit s := by unfold step; rw [h.next]; rfl
    unfold readHlit at h0
    rw [if_neg (by rw [h.bd.len]; exact hl), h.bd.eb, ha, if_pos hs] at h0
    exact .now h0 (by decide)
structure St5 (l : List UInt8) (p : Nat) (out : List UInt8) (wide : Bool) (S most : Nat) (fin : Bool) (hl : Nat) (s : M) : Prop where
  bd : Bd l p out wide S most s
  next : s.next = 5
  final : s.final = fin
  ehl : s.hl = hl
  lens : s.lens = []
theorem hlit_ok (h : Stn 4 l p out wide S most fin s) {a : Nat} (ha : num (((bitsOf l).drop p).take 5) = a) (hs : ¬ 29 < a) (hl : ¬ 8 * l.length - p < 5) : ∃ s', Steps s s' ∧ St5 l (p + 5) out wide S most fin (257 + a) s' := by
  have h0 : step s = readHlit s := by unfold step; rw [h.next]; rfl
  unfold readHlit at h0
  rw [if_neg (by rw [h.bd.len]; exact hl), h.bd.at_, h.bd.eb, ha, if_neg hs] at h0
  exact ⟨_, .one h0, h.bd.to rfl rfl rfl rfl rfl rfl rfl rfl, rfl, h.final, rfl, rfl⟩
structure St6 (l : List UInt8) (p : Nat) (out : List UInt8) (wide : Bool) (S most : Nat) (fin : Bool) (hl hd : Nat) (s : M) : Prop where
  bd : Bd l p out wide S most s
  next : s.next = 6
  final : s.final = fin
  ehl : s.hl = hl
  ehd : s.hd = hd
  lens : s.lens = []
theorem hdist_short (h : St5 l p out wide S most fin hl s) (hs : 8 * l.length - p < 5) : Bad s := by
  have h0 : step s = readHdist s := by unfold step; rw [h.next]; rfl
  unfold readHdist at h0
  rw [if_pos (by rw [h.bd.len]; exact hs)] at h0
  exact .now h0 (lack_ne s)
theorem hdist_bad (h : St5 l p out wide S most fin hl s) {a : Nat} (ha : num (((bitsOf l).drop p).take 5) = a) (hs : lastD wide < a) : Bad s := by
  by_cases hl' : 8 * l.length - p < 5
  · exact hdist_short h hl'
  · have h0 : step s = readHdist s := by unfold step; rw [h.next]; rfl
    unfold readHdist at h0
    rw [if_neg (by rw [h.bd.len]; exact hl'), h.bd.eb, ha, h.bd.ew, if_pos hs] at h0
    exact .now h0 (by decide)
theorem hdist_ok (h : St5 l p out wide S most fin hl s) {a : Nat} (ha : num (((bitsOf l).drop p).take 5) = a) (hs : ¬ lastD wide < a) (hl' : ¬ 8 * l.length - p < 5) : ∃ s', Steps s s' ∧ St6 l (p + 5) out wide S most fin hl (1 + a) s' := by
  have h0 : step s = readHdist s := by unfold step; rw [h.next]; rfl
  unfold readHdist at h0
  have hs' : ¬ lastD s.wide < a := by rw [h.bd.ew]; exact hs
  rw [if_neg (by rw [h.bd.len]; exact hl'), h.bd.at_, h.bd.eb, ha, if_neg hs'] at h0
  exact ⟨_, .one h0, h.bd.to rfl rfl rfl rfl rfl rfl rfl rfl, rfl, h.final, h.ehl, rfl, h.lens⟩
theorem hclen_short (h : St6 l p out wide S most fin hl hd s) (hs : 8 * l.length - p < 4) : Bad s := by
  have h0 : step s = readHclen s := by unfold step; rw [h.next]; rfl
  unfold readHclen at h0
  rw [if_pos (by rw [h.bd.len]; exact hs)] at h0
  exact .now h0 (lack_ne s)
theorem hclen_ok (h : St6 l p out wide S most fin hl hd s) {a : Nat} (ha : num (((bitsOf l).drop p).take 4) = a) (hl' : ¬ 8 * l.length - p < 4) : ∃ s', Steps s s' ∧ St7 l (p + 4) out wide S most fin hl hd (4 + a) [] s' := by
  have h0 : step s = readHclen s := by unfold step; rw [h.next]; rfl
  unfold readHclen at h0
  rw [if_neg (by rw [h.bd.len]; exact hl'), h.bd.at_, h.bd.eb, ha] at h0
  exact ⟨_, .one h0, h.bd.to rfl rfl rfl rfl rfl rfl rfl rfl, rfl, h.final, h.ehl, h.ehd, rfl, h.lens⟩

theorem St7.step_ (h : St7 l p out wide S most fin hl hd hc L s) : step s = readCodeLengths s := by unfold step; rw [h.next]; rfl
theorem cl_short (h : St7 l p out wide S most fin hl hd hc L s) (hk : L.length < hc) (hs : 8 * l.length - p < 3) : Bad s := by
  have h0 := h.step_
  unfold readCodeLengths at h0
  rw [if_pos (by rw [h.lens, h.ehc]; exact hk), if_pos (by rw [h.bd.len]; exact hs)] at h0
  exact .now h0 (lack_ne s)
theorem cl_one (h : St7 l p out wide S most fin hl hd hc L s) (hk : L.length < hc) (hs : ¬ 8 * l.length - p < 3) : ∃ s', Steps s s' ∧ St7 l (p + 3) out wide S most fin hl hd hc (L ++ [num (((bitsOf l).drop p).take 3)]) s' := by
  have h0 := h.step_
  unfold readCodeLengths at h0
  rw [if_pos (by rw [h.lens, h.ehc]; exact hk), if_neg (by rw [h.bd.len]; exact hs), h.bd.at_, h.bd.eb] at h0
  exact ⟨_, .one h0, h.bd.to rfl rfl rfl rfl rfl rfl rfl rfl, h.next, h.final, h.ehl, h.ehd, h.ehc, by show s.lens ++ _ = _; rw [h.lens]⟩
theorem cl_bad (h : St7 l p out wide S most fin hl hd hc L s) (hk : ¬ L.length < hc) (hb : kd (scat L L.length) ≠ 1) : Bad s := by
  have h0 := h.step_
  unfold readCodeLengths at h0
  rw [if_neg (by rw [h.lens, h.ehc]; exact hk), if_pos (by rw [h.lens]; exact hb)] at h0
  exact .now h0 (by decide)
theorem cl_ok (h : St7 l p out wide S most fin hl hd hc L s) (hk : ¬ L.length < hc) (hb : kd (scat L L.length) = 1) : ∃ s', Steps s s' ∧ St8 l p out wide S most fin hl hd (scat L L.length) [] s' := by
  have h0 := h.step_
  unfold readCodeLengths at h0
  rw [if_neg (by rw [h.lens, h.ehc]; exact hk), if_neg (by rw [h.lens]; simpa using hb)] at h0
  exact ⟨_, .one h0, h.bd.to h.bd.eb rfl rfl rfl rfl rfl rfl rfl, rfl, h.final, h.ehl, h.ehd, by simp only; rw [h.lens], rfl⟩
theorem scat_more (L : List Nat) (n : Nat) : ∀ i, i ≤ L.length → scat (L ++ [n]) i = scat L i
  | 0, _ => rfl
  | i + 1, h => by
    unfold scat
    rw [scat_more L n i (by omega)]
    congr 1
    rw [List.getD_eq_getElem?_getD, List.getD_eq_getElem?_getD, List.getElem?_append_left (by omega)]
theorem scat_one (L : List Nat) (n : Nat) : scat (L ++ [n]) (L ++ [n]).length = (scat L L.length).set (order.getD L.length 0) n := by
  rw [List.length_append, List.length_singleton]
  show (scat (L ++ [n]) L.length).set _ _ = _
  rw [scat_more L n L.length (Nat.le_refl _)]
  congr 1
  rw [List.getD_eq_getElem?_getD, List.getElem?_append_right (Nat.le_refl _), Nat.sub_self]
  rfl

theorem St8.step_ (h : St8 l p out wide S most fin hl hd cl L s) : step s = readLengths s := by unfold step; rw [h.next]; rfl
theorem le_err (h : St8 l p out wide S most fin hl hd cl L s) (hk : L.length < hl + hd) (he : (sym cl ((bitsOf l).drop p)).2.2 ≠ 0) : Bad s := by
  have h0 := h.step_
  unfold readLengths at h0
  rw [if_pos (by rw [h.lens, h.ehl, h.ehd]; exact hk), h.code] at h0
  unfold readLength at h0
  simp only [Option.getD_some] at h0
  rw [h.bd.eb, if_pos he] at h0
  exact .now h0 (bad_ne _ _ he)
variable {v n : Nat}
theorem le_sym (h : St8 l p out wide S most fin hl hd cl L s) (hk : L.length < hl + hd) (he : sym cl ((bitsOf l).drop p) = (v, n, 0)) : step s = readLen s v n := by
  have h0 := h.step_
  unfold readLengths at h0
  rw [if_pos (by rw [h.lens, h.ehl, h.ehd]; exact hk), h.code] at h0
  unfold readLength at h0
  simp only [Option.getD_some] at h0
  rw [h.bd.eb, he] at h0
  simpa using h0
theorem le_none (h : St8 l p out wide S most fin hl hd cl L s) (hk : L.length < hl + hd) (he : sym cl ((bitsOf l).drop p) = (v, n, 0)) (hv : v = 16) (hL : L = []) : Bad s := by
  have h0 := le_sym h hk he
  unfold readLen at h0
  rw [if_pos ⟨hv, by rw [h.lens]; exact hL⟩] at h0
  exact .now h0 (by decide)
theorem le_short (h : St8 l p out wide S most fin hl hd cl L s) (hk : L.length < hl + hd) (he : sym cl ((bitsOf l).drop p) = (v, n, 0)) (hs : 8 * l.length - p < n + extra v) : Bad s := by
  by_cases hn : v = 16 ∧ L = []
  · exact le_none h hk he hn.1 hn.2
  · have h0 := le_sym h hk he
    unfold readLen at h0
    rw [if_neg (by rw [h.lens]; exact hn), if_pos (by rw [h.bd.len]; exact hs)] at h0
    exact .now h0 (lack_ne s)
theorem le_over (h : St8 l p out wide S most fin hl hd cl L s) (hk : L.length < hl + hd) (he : sym cl ((bitsOf l).drop p) = (v, n, 0)) (hs : hl + hd < L.length + (least v + num (((bitsOf l).drop (p + n)).take (extra v)))) : Bad s := by
  by_cases hn : v = 16 ∧ L = []
  · exact le_none h hk he hn.1 hn.2
  · by_cases hs' : 8 * l.length - p < n + extra v
    · exact le_short h hk he hs'
    · have h0 := le_sym h hk he
      unfold readLen at h0
      rw [if_neg (by rw [h.lens]; exact hn), if_neg (by rw [h.bd.len]; exact hs'), if_pos (by rw [h.ehl, h.ehd, h.lens, h.bd.at_]; exact hs)] at h0
      exact .now h0 (by decide)
theorem le_ok (h : St8 l p out wide S most fin hl hd cl L s) (hk : L.length < hl + hd) (he : sym cl ((bitsOf l).drop p) = (v, n, 0)) (hn : ¬ (v = 16 ∧ L = [])) (hs : ¬ 8 * l.length - p < n + extra v) (ho : ¬ hl + hd < L.length + (least v + num (((bitsOf l).drop (p + n)).take (extra v)))) :
    ∃ s', Steps s s' ∧ St8 l (p + n + extra v) out wide S most fin hl hd cl (L ++ List.replicate (least v + num (((bitsOf l).drop (p + n)).take (extra v))) (length_ v L)) s' := by
  have h0 := le_sym h hk he
  unfold readLen at h0
  rw [if_neg (by rw [h.lens]; exact hn), if_neg (by rw [h.bd.len]; exact hs), if_neg (by rw [h.ehl, h.ehd, h.lens, h.bd.at_]; exact ho), h.bd.at_, h.bd.at_] at h0
  exact ⟨_, .one h0, h.bd.to (by simp only; rw [Nat.add_assoc]) rfl rfl rfl rfl rfl rfl rfl, h.next, h.final, h.ehl, h.ehd, h.code, by simp only; rw [h.lens]⟩
theorem le_bad (h : St8 l p out wide S most fin hl hd cl L s) (hk : ¬ L.length < hl + hd) (hg : goodCodes (L.take hl) (L.drop hl) = false) : Bad s := by
  have h0 := h.step_
  unfold readLengths at h0
  rw [if_neg (by rw [h.lens, h.ehl, h.ehd]; exact hk), if_pos (by rw [h.lens, h.ehl]; exact hg)] at h0
  exact .now h0 (by decide)
theorem le_end (h : St8 l p out wide S most fin hl hd cl L s) (hk : ¬ L.length < hl + hd) (hg : goodCodes (L.take hl) (L.drop hl) = true) : ∃ s', Steps s s' ∧ St9 l p out wide S most (L.take hl) (L.drop hl) fin s' := by
  have h0 := h.step_
  unfold readLengths at h0
  rw [if_neg (by rw [h.lens, h.ehl, h.ehd]; exact hk), if_neg (by rw [h.lens, h.ehl, hg]; decide)] at h0
  exact ⟨_, .one h0, h.bd.to h.bd.eb rfl rfl rfl rfl rfl rfl rfl, rfl, by simp only; rw [h.lens, h.ehl], by simp only; rw [h.lens, h.ehl], h.final⟩
end
end InfMath
end

section
/-
  inflate's machine over a block of fixed codes. No program, no dump.
-/
namespace InfMath
open BitMath CanMath TabMath WinMath

theorem sym_at {ls : List Nat} (hc : CodeOk ls) (i : Nat) (h : 1 ≤ ln ls i) (r : List Bool) : sym ls (bitsAt ls i ++ r) = (i, ln ls i, 0) := by
  have hi := ln_lt h
  have hlen : (bitsAt ls i).length = ln ls i := by rw [bitsAt_len ls i hi, ln_eq ls i hi]
  have h15 : ln ls i ≤ 15 := ln_le hc.all i
  have hx : Has ls (num ((bitsAt ls i ++ r).take 15)) i := by
    refine ⟨h, ?_⟩
    rw [num_mod_take, List.take_take, Nat.min_eq_left h15, take_ext (by omega), List.take_of_length_le (by omega), bitsAt_wd ls i hi, num_lows, Nat.mod_eq_of_lt (wd_lt ls i)]
  unfold sym
  rw [who_some hc.all hc.kr hx]
  simp only
  rw [if_neg (by omega), if_neg (by simp; omega)]
theorem fixL_len : fixL.length = 288 := by decide +kernel
theorem fixD_len : fixD.length = 32 := by decide +kernel
theorem fixL_ln : ∀ v : Fin 288, 1 ≤ ln fixL v.val := by decide +kernel
theorem fixD_ln : ∀ v : Fin 32, ln fixD v.val = 5 := by decide +kernel
/-- The machine within a last block of fixed codes. -/
def fx (wide : Bool) (S most p : Nat) (b : List Bool) (o : List UInt8) (m : Nat) : M :=
  { start wide S most with bits := b, pushed := p, final := true, fixed := true, lit := some fixL, dist := some fixD, next := 9, hist := o, out := o, total := o.length, matching := m }
section
variable {wide : Bool} {S most : Nat}
theorem lit_step (p : Nat) (r : List Bool) (o : List UInt8) (m : Nat) (c : UInt8) (hm : o.length < most) :
    step (fx wide S most p (bitsAt fixL c.toNat ++ r) o m) = .more (fx wide S most p r (o ++ [c]) m) := by
  have hc := c.toNat_lt
  have h1 := fixL_ln ⟨c.toNat, by omega⟩
  have hs := sym_at fixL_ok c.toNat h1 r
  have hd : (bitsAt fixL c.toNat ++ r).drop (ln fixL c.toNat) = r := by
    rw [List.drop_append_of_le_length (by rw [bitsAt_len fixL _ (ln_lt h1), ln_eq fixL _ (ln_lt h1)]; exact Nat.le_refl _), List.drop_of_length_le (by rw [bitsAt_len fixL _ (ln_lt h1), ln_eq fixL _ (ln_lt h1)]; exact Nat.le_refl _), List.nil_append]
  show readLiteral (fx wide S most p (bitsAt fixL c.toNat ++ r) o m) = _
  unfold readLiteral fx
  simp only [Option.getD_some, hs]
  rw [if_neg (by decide)]
  unfold readLit
  rw [if_pos (by omega), if_neg (by simp [start]; omega)]
  simp only [put, hd, UInt8.ofNat_toNat, List.length_append, List.length_singleton]
theorem mat_steps (p : Nat) (r : List Bool) (o : List UInt8) (m : Nat) {a l x v b k y u : Nat} (ha : base a wide = some (l, x)) (hv : v < 2 ^ x) (hb : far b wide = some (k, y)) (hu : u < 2 ^ y) (hbl : b < 32)
    (hd : k + u ≤ min o.length S) (hm : o.length + (l + v) ≤ most) :
    Steps (fx wide S most p (bitsAt fixL a ++ (lows x v ++ (bitsAt fixD b ++ (lows y u ++ r)))) o m) (fx wide S most p r (grow o (k + u) (l + v)) (l + v)) := by
  have ha2 : 257 ≤ a ∧ a ≤ 285 := by
    unfold base at ha
    by_cases h : a < 257 ∨ 285 < a
    · rw [if_pos h] at ha; cases ha
    · omega
  have h1 := fixL_ln ⟨a, by omega⟩
  have hl1 : (bitsAt fixL a).length = ln fixL a := by rw [bitsAt_len fixL _ (ln_lt h1), ln_eq fixL _ (ln_lt h1)]
  have hs := sym_at fixL_ok a h1 (lows x v ++ (bitsAt fixD b ++ (lows y u ++ r)))
  have h2 := fixD_ln ⟨b, hbl⟩
  simp only at h1 h2
  have hl2 : (bitsAt fixD b).length = 5 := by rw [bitsAt_len fixD b (by rw [fixD_len]; exact hbl), ← ln_eq fixD b (by rw [fixD_len]; exact hbl), h2]
  have hs2 := sym_at fixD_ok b (by omega) (lows y u ++ r)
  rw [h2] at hs2
  have hlx := lows_len x v
  have hly := lows_len y u
  have s1 : step (fx wide S most p (bitsAt fixL a ++ (lows x v ++ (bitsAt fixD b ++ (lows y u ++ r)))) o m) = .more { fx wide S most p (bitsAt fixD b ++ (lows y u ++ r)) o (l + v) with next := 10 } := by
    show readLiteral (fx wide S most p _ o m) = _
    unfold readLiteral fx
    simp only [Option.getD_some, hs]
    rw [if_neg (by decide)]
    unfold readLit
    rw [if_neg (by omega), if_neg (by omega)]
    simp only [start, ha]
    rw [if_neg (by simp [hl1, hlx])]
    have e1 : ((bitsAt fixL a ++ (lows x v ++ (bitsAt fixD b ++ (lows y u ++ r)))).drop (ln fixL a)) = lows x v ++ (bitsAt fixD b ++ (lows y u ++ r)) := by
      rw [List.drop_append_of_le_length (by omega), List.drop_of_length_le (by omega), List.nil_append]
    have e2 : num ((lows x v ++ (bitsAt fixD b ++ (lows y u ++ r))).take x) = v := by
      rw [List.take_append_of_le_length (by omega), List.take_of_length_le (by omega), num_lows, Nat.mod_eq_of_lt hv]
    rw [← List.drop_drop, e1, e2, List.drop_append_of_le_length (by omega), List.drop_of_length_le (by omega), List.nil_append]
  have s2 : step { fx wide S most p (bitsAt fixD b ++ (lows y u ++ r)) o (l + v) with next := 10 } = .more (fx wide S most p r (grow o (k + u) (l + v)) (l + v)) := by
    show readDistance { fx wide S most p (bitsAt fixD b ++ (lows y u ++ r)) o (l + v) with next := 10 } = _
    unfold readDistance fx
    simp only [Option.getD_some, hs2, start]
    rw [if_neg (by omega), if_neg (by decide)]
    unfold readDist
    simp only [hb]
    rw [if_neg (by simp [hl2, hly])]
    have e1 : ((bitsAt fixD b ++ (lows y u ++ r)).drop 5) = lows y u ++ r := by
      rw [List.drop_append_of_le_length (by omega), List.drop_of_length_le (by omega), List.nil_append]
    have e2 : num ((lows y u ++ r).take y) = u := by
      rw [List.take_append_of_le_length (by omega), List.take_of_length_le (by omega), num_lows, Nat.mod_eq_of_lt hu]
    rw [e1, e2]
    unfold copied
    simp only
    rw [if_neg (by omega), ← List.drop_drop, e1, List.drop_append_of_le_length (by omega), List.drop_of_length_le (by omega), List.nil_append, ← grow_copy, grow_len]
  exact .cons s1 (.one s2)

/-- Bits that come to these bytes. -/
def Goes (wide : Bool) (S most : Nat) (B : List Bool) (o : List UInt8) : Prop := ∃ m, ∀ p r, Steps (fx wide S most p (B ++ r) [] 0) (fx wide S most p r o m)
theorem Goes.nil : Goes wide S most [] [] := ⟨0, fun _ _ => .refl _⟩
theorem Goes.lit {B : List Bool} {o : List UInt8} (h : Goes wide S most B o) (c : UInt8) (hm : o.length < most) : Goes wide S most (B ++ bitsAt fixL c.toNat) (o ++ [c]) := by
  obtain ⟨m, h⟩ := h
  refine ⟨m, fun p r => ?_⟩
  rw [List.append_assoc]
  exact (h p _).snoc (lit_step p r o m c hm)
theorem Goes.mat {B : List Bool} {o : List UInt8} (h : Goes wide S most B o) {a l x v b k y u : Nat} (ha : base a wide = some (l, x)) (hv : v < 2 ^ x) (hb : far b wide = some (k, y)) (hu : u < 2 ^ y) (hbl : b < 32)
    (hd : k + u ≤ min o.length S) (hm : o.length + (l + v) ≤ most) : Goes wide S most (B ++ (bitsAt fixL a ++ (lows x v ++ (bitsAt fixD b ++ lows y u)))) (grow o (k + u) (l + v)) := by
  obtain ⟨m, h⟩ := h
  refine ⟨l + v, fun p r => ?_⟩
  have := mat_steps (S := S) p r o m ha hv hb hu hbl hd hm
  simp only [List.append_assoc]
  exact (h p _).trans this
end
end InfMath
end

section
/-
  inflate's machine over stored blocks. No program, no dump.
-/
namespace InfMath
open BitMath CanMath TabMath WinMath

/-- A stored block's bytes, at a byte's beginning. -/
def stored (c : List UInt8) (last : Bool) : List UInt8 :=
  [if last then 1 else 0, UInt8.ofNat c.length, UInt8.ofNat (c.length / 256), UInt8.ofNat (255 - c.length % 256), UInt8.ofNat (255 - c.length / 256)] ++ c
end InfMath
end

import Derived.Test.YtjejlhpnhkacmaaGreatDoorMgA

section
/-
  inflate as a machine that goes step by step over bits. Plain lists: no program, no dump.
-/
namespace InfMath
open BitMath CanMath TabMath WinMath

/-- What a set of lengths makes: 0 none, 1 whole, 2 single, 3 part, 4 over. -/
def kd (ls : List Nat) : Nat := if 32768 < kr ls then 4 else if kr ls = 0 then 0 else if kr ls = 32768 then 1 else if kr ls = 16384 ∧ ls.count 1 = 1 then 2 else 3

/-- The machine. -/
structure M where
  wide : Bool
  size : Nat
  most : Nat
  bits : List Bool
  pushed : Nat
  ended : Bool
  hist : List UInt8
  out : List UInt8
  total : Nat
  next : Nat
  final : Bool
  left : Nat
  hl : Nat
  hd : Nat
  hc : Nat
  lens : List Nat
  hcode : Option (List Nat)
  fixed : Bool
  lit : Option (List Nat)
  dist : Option (List Nat)
  matching : Nat
deriving DecidableEq

inductive Res where
  | more (s : M)
  | halt (c : Nat)

def lack (s : M) : Nat := if s.ended then 2 else 5
def fixL : List Nat := List.replicate 144 8 ++ List.replicate 112 9 ++ List.replicate 24 7 ++ List.replicate 8 8
def fixD : List Nat := List.replicate 32 5

/-- The symbol in front: it, its bits, an error. -/
def sym (ls : List Nat) (bs : List Bool) : Nat × Nat × Nat :=
  if (who ls (num (bs.take 15))).l = 0 then (0, 0, 2) else if min bs.length 15 < (who ls (num (bs.take 15))).l then (0, 0, 5) else ((who ls (num (bs.take 15))).v, (who ls (num (bs.take 15))).l, 0)

def base (s : Nat) (wide : Bool) : Option (Nat × Nat) :=
  if s < 257 ∨ 285 < s then none else if s < 265 then some (s - 254, 0) else if s < 285 then some (3 + (4 + (s - 265) % 4) * 2 ^ ((s - 265) / 4 + 1), (s - 265) / 4 + 1) else if wide then some (3, 16) else some (258, 0)
def lastD (wide : Bool) : Nat := if wide then 31 else 29
def far (s : Nat) (wide : Bool) : Option (Nat × Nat) :=
  if lastD wide < s then none else if s < 4 then some (1 + s, 0) else some (1 + (2 + s % 2) * 2 ^ (s / 2 - 1), s / 2 - 1)

def order : List Nat := [16, 17, 18, 0, 8, 7, 9, 6, 10, 5, 11, 4, 12, 3, 13, 2, 14, 1, 15]
/-- Lengths where they belong, the first i of them. -/
def scat (lens : List Nat) : Nat → List Nat
  | 0 => List.replicate 19 0
  | i + 1 => (scat lens i).set (order.getD i 0) (lens.getD i 0)
def usable (ls : List Nat) : Bool := kd ls == 1 || kd ls == 2

def close (s : M) : M := { s with next := if s.final then 11 else 1 }
def put (s : M) (c : UInt8) : M := { s with hist := s.hist ++ [c], out := s.out ++ [c], total := s.total + 1 }

def opening (s : M) : Res :=
  if s.bits.length < 3 then .halt (lack s)
  else if num (s.bits.take 3) / 2 = 0 then .more { s with bits := s.bits.drop 3, final := num (s.bits.take 3) % 2 == 1, next := 2 }
  else if num (s.bits.take 3) / 2 = 1 then .more { s with bits := s.bits.drop 3, final := num (s.bits.take 3) % 2 == 1, fixed := true, lit := some fixL, dist := some fixD, next := 9 }
  else if num (s.bits.take 3) / 2 = 2 then .more { s with bits := s.bits.drop 3, final := num (s.bits.take 3) % 2 == 1, next := 4 }
  else .halt 2
def readSize (s : M) : Res :=
  if s.bits.length % 8 ≠ 0 then .more { s with bits := s.bits.drop (s.bits.length % 8) }
  else if s.bits.length < 32 then .halt (lack s)
  else if num ((s.bits.drop 16).take 16) + num (s.bits.take 16) ≠ 65535 then .halt 2
  else .more { s with bits := s.bits.drop 32, left := num (s.bits.take 16), next := 3 }
def readBytes (s : M) : Res :=
  if s.left = 0 then .more (close s)
  else if s.bits.length < 8 then .halt (lack s)
  else if s.most ≤ s.total then .halt 3
  else .more { put s (UInt8.ofNat (num (s.bits.take 8))) with bits := s.bits.drop 8, left := s.left - 1 }
def readHlit (s : M) : Res :=
  if s.bits.length < 5 then .halt (lack s)
  else if 29 < num (s.bits.take 5) then .halt 2
  else .more { s with bits := s.bits.drop 5, hl := 257 + num (s.bits.take 5), hd := 0, hc := 0, lens := [], hcode := none, next := 5 }
def readHdist (s : M) : Res :=
  if s.bits.length < 5 then .halt (lack s)
  else if lastD s.wide < num (s.bits.take 5) then .halt 2
  else .more { s with bits := s.bits.drop 5, hd := 1 + num (s.bits.take 5), next := 6 }
def readHclen (s : M) : Res :=
  if s.bits.length < 4 then .halt (lack s)
  else .more { s with bits := s.bits.drop 4, hc := 4 + num (s.bits.take 4), next := 7 }
def readCodeLengths (s : M) : Res :=
  if s.lens.length < s.hc then
    if s.bits.length < 3 then .halt (lack s) else .more { s with bits := s.bits.drop 3, lens := s.lens ++ [num (s.bits.take 3)] }
  else if kd (scat s.lens s.lens.length) ≠ 1 then .halt 2
  else .more { s with hcode := some (scat s.lens s.lens.length), lens := [], next := 8 }
def extra (v : Nat) : Nat := if v = 16 then 2 else if v = 17 then 3 else if v = 18 then 7 else 0
def least (v : Nat) : Nat := if v = 16 then 3 else if v = 17 then 3 else if v = 18 then 11 else 1
def length_ (v : Nat) (lens : List Nat) : Nat := if v = 16 then lens.getLastD 0 else if v = 17 then 0 else if v = 18 then 0 else v
/-- One length, or several, where the symbol v of n bits stands in front. -/
def readLen (s : M) (v n : Nat) : Res :=
  if v = 16 ∧ s.lens = [] then .halt 2
  else if s.bits.length < n + extra v then .halt (lack s)
  else if s.hl + s.hd < s.lens.length + (least v + num ((s.bits.drop n).take (extra v))) then .halt 2
  else .more { s with bits := s.bits.drop (n + extra v), lens := s.lens ++ List.replicate (least v + num ((s.bits.drop n).take (extra v))) (length_ v s.lens) }
def bad (s : M) (c : Nat) : Nat := if c = 5 then lack s else c
def readLength (s : M) (ls : List Nat) : Res :=
  if (sym ls s.bits).2.2 ≠ 0 then .halt (bad s (sym ls s.bits).2.2) else readLen s (sym ls s.bits).1 (sym ls s.bits).2.1
def goodCodes (l d : List Nat) : Bool := l.getD 256 0 != 0 && usable l && (kd d == 0 || usable d)
def readLengths (s : M) : Res :=
  if s.lens.length < s.hl + s.hd then readLength s (s.hcode.getD [])
  else if goodCodes (s.lens.take s.hl) (s.lens.drop s.hl) = false then .halt 2
  else .more { s with lit := some (s.lens.take s.hl), dist := some (s.lens.drop s.hl), hl := 0, hd := 0, hc := 0, lens := [], hcode := none, next := 9 }
def readLit (s : M) (v n : Nat) : Res :=
  if v < 256 then
    if s.most ≤ s.total then .halt 3 else .more { put s (UInt8.ofNat v) with bits := s.bits.drop n }
  else if v = 256 then .more (close { s with bits := s.bits.drop n })
  else match base v s.wide with
    | none => .halt 2
    | some (l, x) => if s.bits.length < n + x then .halt (lack s) else .more { s with bits := s.bits.drop (n + x), matching := l + num ((s.bits.drop n).take x), next := 10 }
def readLiteral (s : M) : Res :=
  if (sym (s.lit.getD []) s.bits).2.2 ≠ 0 then .halt (bad s (sym (s.lit.getD []) s.bits).2.2) else readLit s (sym (s.lit.getD []) s.bits).1 (sym (s.lit.getD []) s.bits).2.1
/-- A match, d bytes ahead. -/
def copied (s : M) (d n : Nat) : Res :=
  if min s.hist.length s.size < d then .halt 2
  else .more { s with bits := s.bits.drop n, hist := grow s.hist d s.matching, out := s.out ++ copy s.hist d s.matching, total := s.total + s.matching, next := 9 }
def readDist (s : M) (v n : Nat) : Res :=
  match far v s.wide with
  | none => .halt 2
  | some (l, x) => if s.bits.length < n + x then .halt (lack s) else copied s (l + num ((s.bits.drop n).take x)) (n + x)
def readDistance (s : M) : Res :=
  if s.most < s.total + s.matching then .halt 3
  else if (sym (s.dist.getD []) s.bits).2.2 ≠ 0 then .halt (bad s (sym (s.dist.getD []) s.bits).2.2) else readDist s (sym (s.dist.getD []) s.bits).1 (sym (s.dist.getD []) s.bits).2.1

def step (s : M) : Res :=
  match s.next with
  | 1 => opening s
  | 2 => readSize s
  | 3 => readBytes s
  | 4 => readHlit s
  | 5 => readHdist s
  | 6 => readHclen s
  | 7 => readCodeLengths s
  | 8 => readLengths s
  | 9 => readLiteral s
  | 10 => readDistance s
  | _ => .halt 0

inductive Steps : M → M → Prop
  | refl (s : M) : Steps s s
  | cons {s t u : M} (h : step s = .more t) (k : Steps t u) : Steps s u
theorem Steps.trans {a b c : M} (h : Steps a b) (k : Steps b c) : Steps a c := by
  induction h with
  | refl => exact k
  | cons h _ ih => exact .cons h (ih k)
theorem Steps.one {a b : M} (h : step a = .more b) : Steps a b := .cons h (.refl b)
theorem Steps.snoc {a b c : M} (h : Steps a b) (k : step b = .more c) : Steps a c := h.trans (.one k)

/-- From s it comes to t, and there it ends so. -/
def Ends (s t : M) (c : Nat) : Prop := Steps s t ∧ step t = .halt c
theorem Ends.one {s t u : M} {c : Nat} (h : step s = .more t) (k : Ends t u c) : Ends s u c := ⟨.cons h k.1, k.2⟩
theorem Ends.of {s t u : M} {c : Nat} (h : Steps s t) (k : Ends t u c) : Ends s u c := ⟨h.trans k.1, k.2⟩
theorem Ends.next {s t u : M} {c : Nat} (h : Steps s t) (k : Ends s u c) : Ends t u c := by
  induction h with
  | refl => exact k
  | cons h _ ih =>
    refine ih ?_
    obtain ⟨hs, he⟩ := k
    cases hs with
    | refl => rw [h] at he; cases he
    | cons h2 k2 => rw [h] at h2; cases h2; exact ⟨k2, he⟩
theorem Ends.det {s t u : M} {c d : Nat} (h : Ends s t c) (k : Ends s u d) : t = u ∧ c = d := by
  have := k.next h.1
  obtain ⟨hs, he⟩ := this
  cases hs with
  | refl => have h2 := h.2; rw [he] at h2; cases h2; exact ⟨rfl, rfl⟩
  | cons h2 _ => have h3 := h.2; rw [h2] at h3; cases h3

/-- The machine, so many steps. -/
def run : Nat → M → M × Option Nat
  | 0, s => (s, none)
  | n + 1, s => match step s with
    | .more t => run n t
    | .halt c => (s, some c)
theorem run_ends : ∀ (n : Nat) (s t : M) (c : Nat), run n s = (t, some c) → Ends s t c
  | 0, _, _, _, h => by simp [run] at h
  | n + 1, s, t, c, h => by
    unfold run at h
    split at h
    · next u hu => exact .one hu (run_ends n u t c h)
    · next d hd =>
      injection h with h1 h2
      injection h2 with h2
      subst h1 h2
      exact ⟨.refl _, hd⟩

/-- The machine as it begins. -/
def start (wide : Bool) (size most : Nat) : M := ⟨wide, size, most, [], 0, false, [], [], 0, 1, false, 0, 0, 0, 0, [], none, false, none, none, 0⟩
end InfMath
end

section
/-
  inflate's machine: what holds of it all the time, and that it ends. No program, no dump.
-/
namespace InfMath
open BitMath CanMath TabMath WinMath

structure CodeOk (ls : List Nat) : Prop where
  len : ls.length ≤ 288
  all : ∀ x ∈ ls, x ≤ 15
  kr : kr ls ≤ 32768
theorem usable_kr {ls : List Nat} (h : usable ls = true) : CanMath.kr ls ≤ 32768 := by
  unfold usable kd at h
  by_cases h1 : 32768 < CanMath.kr ls
  · simp [h1] at h
  · omega
theorem kd_kr {ls : List Nat} {k : Nat} (h : kd ls = k) (hk : k ≠ 4) : CanMath.kr ls ≤ 32768 := by
  unfold kd at h
  by_cases h1 : 32768 < CanMath.kr ls
  · simp [h1] at h; omega
  · omega

theorem who_l (ls : List Nat) (v : Nat) : (who ls v).l = 0 ∧ (who ls v).v = 0 ∨ ∃ i, Has ls v i ∧ (who ls v).v = i ∧ (who ls v).l = ln ls i := by
  unfold who
  split
  · next i hi =>
    have h1 := List.find?_some hi
    exact .inr ⟨i, of_decide_eq_true h1, rfl, rfl⟩
  · exact .inl ⟨rfl, rfl⟩
theorem sym_ok {ls : List Nat} {bs : List Bool} (h : (sym ls bs).2.2 = 0) :
    Has ls (num (bs.take 15)) (sym ls bs).1 ∧ (sym ls bs).2.1 = ln ls (sym ls bs).1 ∧ 1 ≤ (sym ls bs).2.1 ∧ (sym ls bs).2.1 ≤ bs.length ∧ (sym ls bs).2.1 ≤ 15 ∧ (sym ls bs).1 < ls.length := by
  unfold sym at h ⊢
  by_cases h1 : (who ls (num (bs.take 15))).l = 0
  · rw [if_pos h1] at h; simp at h
  · rw [if_neg h1] at h ⊢
    by_cases h2 : min bs.length 15 < (who ls (num (bs.take 15))).l
    · rw [if_pos h2] at h; simp at h
    · rw [if_neg h2]
      rcases who_l ls (num (bs.take 15)) with hw | ⟨i, hi, h3, h4⟩
      · exact absurd hw.1 h1
      · have h5 := hi.1
        have h6 := ln_lt hi.1
        exact ⟨by rw [h3]; exact hi, by rw [h3, h4], by simp only; omega, by simp only; omega, by simp only; omega, by rw [h3]; exact h6⟩
theorem sym_code (ls : List Nat) (bs : List Bool) : (sym ls bs).2.2 = 0 ∨ (sym ls bs).2.2 = 2 ∨ (sym ls bs).2.2 = 5 := by
  unfold sym; split
  · exact .inr (.inl rfl)
  · split
    · exact .inr (.inr rfl)
    · exact .inl rfl

structure Ok (s : M) : Prop where
  tot : s.total = s.hist.length
  size1 : 1 ≤ s.size
  size2 : s.size ≤ 65536
  most : s.most ≤ 1073741824
  room : s.total ≤ s.most
  outl : s.out.length ≤ s.total
  psh : s.pushed ≤ 100000000
  bnd : s.bits.length ≤ 8 * s.pushed
  next1 : 1 ≤ s.next
  next2 : s.next ≤ 11
  left : s.left ≤ 65535
  al : s.next = 3 → s.bits.length % 8 = 0
  hl : 5 ≤ s.next → s.next ≤ 8 → 257 ≤ s.hl ∧ s.hl ≤ 286
  hd : 6 ≤ s.next → s.next ≤ 8 → 1 ≤ s.hd ∧ s.hd ≤ 32
  hc : s.next = 7 → 4 ≤ s.hc ∧ s.hc ≤ 19
  l0 : 5 ≤ s.next → s.next ≤ 6 → s.lens = []
  l7 : s.next = 7 → s.lens.length ≤ s.hc ∧ ∀ x ∈ s.lens, x ≤ 7
  l8 : s.next = 8 → s.lens.length ≤ s.hl + s.hd ∧ (∀ x ∈ s.lens, x ≤ 15) ∧ ∃ hs, s.hcode = some hs ∧ CodeOk hs ∧ hs.length = 19
  lit : s.next = 9 ∨ s.next = 10 → ∃ l d, s.lit = some l ∧ s.dist = some d ∧ CodeOk l ∧ CodeOk d
  mat : s.next = 10 → 3 ≤ s.matching ∧ s.matching ≤ 65538

theorem fixL_ok : CodeOk fixL := ⟨by decide +kernel, by decide +kernel, by decide +kernel⟩
theorem fixD_ok : CodeOk fixD := ⟨by decide +kernel, by decide +kernel, by decide +kernel⟩
theorem num_take_lt (bs : List Bool) (n : Nat) : num (bs.take n) < 2 ^ n :=
  Nat.lt_of_lt_of_le (num_lt _) (Nat.pow_le_pow_right (by omega) (by simp; omega))
theorem scat_len (lens : List Nat) (i : Nat) : (scat lens i).length = 19 := by
  induction i with
  | zero => simp [scat]
  | succ i ih => simp [scat, ih]
theorem scat_all (lens : List Nat) (b : Nat) (h : ∀ x ∈ lens, x ≤ b) (i : Nat) : ∀ x ∈ scat lens i, x ≤ b := by
  induction i with
  | zero => intro x hx; simp [scat] at hx; omega
  | succ i ih =>
    intro x hx
    rcases List.mem_or_eq_of_mem_set hx with h1 | rfl
    · exact ih x h1
    · by_cases hi : i < lens.length
      · rw [List.getD_eq_getElem?_getD, List.getElem?_eq_getElem hi]; exact h _ (List.getElem_mem hi)
      · rw [List.getD_eq_getElem?_getD, List.getElem?_eq_none (by omega)]; simp
theorem base_le {v : Nat} {wide : Bool} {l x : Nat} (h : base v wide = some (l, x)) : 3 ≤ l ∧ l + 2 ^ x ≤ 65539 ∧ x ≤ 16 := by
  unfold base at h
  by_cases h1 : v < 257 ∨ 285 < v
  · rw [if_pos h1] at h; cases h
  · rw [if_neg h1] at h
    by_cases h2 : v < 265
    · rw [if_pos h2] at h
      simp only [Option.some.injEq, Prod.mk.injEq] at h
      obtain ⟨h3, rfl⟩ := h
      omega
    · rw [if_neg h2] at h
      by_cases h3 : v < 285
      · rw [if_pos h3] at h
        obtain ⟨q, hq⟩ : ∃ q, q = (v - 265) / 4 := ⟨_, rfl⟩
        rw [← hq] at h
        have hq4 : q ≤ 4 := by omega
        have hm : (v - 265) % 4 < 4 := Nat.mod_lt _ (by omega)
        generalize (v - 265) % 4 = m at *
        clear h1 h2 h3 hq
        simp only [Option.some.injEq, Prod.mk.injEq] at h
        obtain ⟨h1, rfl⟩ := h
        rcases (by omega : q = 0 ∨ q = 1 ∨ q = 2 ∨ q = 3 ∨ q = 4) with rfl | rfl | rfl | rfl | rfl <;> simp at h1 ⊢ <;> omega
      · rw [if_neg h3] at h
        cases wide
        · simp at h
          obtain ⟨rfl, rfl⟩ := h
          simp
        · simp at h
          obtain ⟨rfl, rfl⟩ := h
          simp
theorem far_le {v : Nat} {wide : Bool} {l x : Nat} (h : far v wide = some (l, x)) : 1 ≤ l ∧ l + 2 ^ x ≤ 65537 ∧ x ≤ 14 := by
  unfold far at h
  have hl : lastD wide ≤ 31 := by unfold lastD; split <;> omega
  split at h
  · cases h
  · split at h
    · cases h; omega
    · injection h with h
      injection h with h1 h2
      have hq4 : v / 2 - 1 ≤ 14 := by omega
      have hm : v % 2 < 2 := Nat.mod_lt _ (by omega)
      generalize v % 2 = m at *
      generalize v / 2 - 1 = q at *
      subst h2
      rcases (by omega : q = 0 ∨ q = 1 ∨ q = 2 ∨ q = 3 ∨ q = 4 ∨ q = 5 ∨ q = 6 ∨ q = 7 ∨ q = 8 ∨ q = 9 ∨ q = 10 ∨ q = 11 ∨ q = 12 ∨ q = 13 ∨ q = 14) with rfl | rfl | rfl | rfl | rfl | rfl | rfl | rfl | rfl | rfl | rfl | rfl | rfl | rfl | rfl <;> simp at h1 ⊢ <;> omega

section
variable {s t : M}
theorem ok_opening (h : Ok s) (_hn : s.next = 1) (e : opening s = .more t) : Ok t := by
  unfold opening at e
  obtain ⟨a1, a2, a3, a4, a5, a6, a7, a8, a9, a10, a11, a12, a13, a14, a15, a16, a17, a18, a19, a20⟩ := h
  by_cases h1 : s.bits.length < 3
  · rw [if_pos h1] at e; cases e
  · rw [if_neg h1] at e
    by_cases h2 : num (s.bits.take 3) / 2 = 0
    · rw [if_pos h2] at e; cases e
      constructor <;> simp <;> omega
    · rw [if_neg h2] at e
      by_cases h3 : num (s.bits.take 3) / 2 = 1
      · rw [if_pos h3] at e
        have hc : ∃ l d, some fixL = some l ∧ some fixD = some d ∧ CodeOk l ∧ CodeOk d := ⟨_, _, rfl, rfl, fixL_ok, fixD_ok⟩
        generalize fixL = fl at *
        generalize fixD = fd at *
        cases e
        exact ⟨a1, a2, a3, a4, a5, a6, a7, by simp; omega, by simp, by simp, a11, by simp, by simp, by simp, by simp, by simp, by simp, by simp, fun _ => hc, by simp⟩
      · rw [if_neg h3] at e
        by_cases h4 : num (s.bits.take 3) / 2 = 2
        · rw [if_pos h4] at e; cases e
          constructor <;> simp <;> omega
        · rw [if_neg h4] at e; cases e
theorem ok_readSize (h : Ok s) (hn : s.next = 2) (e : readSize s = .more t) : Ok t := by
  unfold readSize at e
  obtain ⟨a1, a2, a3, a4, a5, a6, a7, a8, a9, a10, a11, a12, a13, a14, a15, a16, a17, a18, a19, a20⟩ := h
  split at e
  · cases e
    constructor <;> simp [hn] <;> omega
  · split at e
    · cases e
    · split at e
      · cases e
      · cases e
        have := num_take_lt s.bits 16
        constructor <;> simp <;> omega
theorem ok_close (h : Ok s) (_hn : s.next = 3 ∨ s.next = 9) : Ok (close s) := by
  obtain ⟨a1, a2, a3, a4, a5, a6, a7, a8, a9, a10, a11, a12, a13, a14, a15, a16, a17, a18, a19, a20⟩ := h
  unfold close
  cases s.final
  · constructor <;> simp <;> omega
  · constructor <;> simp <;> omega
theorem ok_readBytes (h : Ok s) (hn : s.next = 3) (e : readBytes s = .more t) : Ok t := by
  unfold readBytes at e
  split at e
  · cases e; exact ok_close h (.inl hn)
  · split at e
    · cases e
    · split at e
      · cases e
      · cases e
        obtain ⟨a1, a2, a3, a4, a5, a6, a7, a8, a9, a10, a11, a12, a13, a14, a15, a16, a17, a18, a19, a20⟩ := h
        clear a13 a14 a15 a16 a17 a18 a19 a20
        constructor <;> simp [put, hn] <;> omega
theorem ok_readHlit (h : Ok s) (_hn : s.next = 4) (e : readHlit s = .more t) : Ok t := by
  unfold readHlit at e
  split at e
  · cases e
  · split at e
    · cases e
    · cases e
      obtain ⟨a1, a2, a3, a4, a5, a6, a7, a8, a9, a10, a11, a12, a13, a14, a15, a16, a17, a18, a19, a20⟩ := h
      constructor <;> simp <;> omega
theorem ok_readHdist (h : Ok s) (hn : s.next = 5) (e : readHdist s = .more t) : Ok t := by
  unfold readHdist at e
  split at e
  · cases e
  · split at e
    · cases e
    · cases e
      have hl : lastD s.wide ≤ 31 := by unfold lastD; split <;> omega
      obtain ⟨a1, a2, a3, a4, a5, a6, a7, a8, a9, a10, a11, a12, a13, a14, a15, a16, a17, a18, a19, a20⟩ := h
      have := a13 (by omega) (by omega)
      have := a16 (by omega) (by omega)
      constructor <;> simp [*] <;> omega
theorem ok_readHclen (h : Ok s) (hn : s.next = 6) (e : readHclen s = .more t) : Ok t := by
  unfold readHclen at e
  split at e
  · cases e
  · cases e
    have h4 := num_take_lt s.bits 4
    obtain ⟨a1, a2, a3, a4, a5, a6, a7, a8, a9, a10, a11, a12, a13, a14, a15, a16, a17, a18, a19, a20⟩ := h
    have := a13 (by omega) (by omega)
    have := a14 (by omega) (by omega)
    have := a16 (by omega) (by omega)
    constructor <;> simp [*] <;> omega
theorem ok_readCodeLengths (h : Ok s) (hn : s.next = 7) (e : readCodeLengths s = .more t) : Ok t := by
  unfold readCodeLengths at e
  split at e
  · split at e
    · cases e
    · cases e
      have h4 := num_take_lt s.bits 3
      obtain ⟨a1, a2, a3, a4, a5, a6, a7, a8, a9, a10, a11, a12, a13, a14, a15, a16, a17, a18, a19, a20⟩ := h
      have b1 := a13 (by omega) (by omega)
      have b2 := a14 (by omega) (by omega)
      have b3 := a17 hn
      have b4 := a15 hn
      refine ⟨a1, a2, a3, a4, a5, a6, a7, by simp; omega, a9, a10, a11, by simp [hn], fun _ _ => b1, fun _ _ => b2, fun _ => b4, by simp [hn], fun _ => ⟨by simp; omega, fun x hx => ?_⟩, by simp [hn], by simp [hn], by simp [hn]⟩
      simp only [List.mem_append, List.mem_singleton] at hx
      rcases hx with hx | rfl
      · exact b3.2 x hx
      · omega
  · split at e
    · cases e
    · next hk =>
      cases e
      obtain ⟨a1, a2, a3, a4, a5, a6, a7, a8, a9, a10, a11, a12, a13, a14, a15, a16, a17, a18, a19, a20⟩ := h
      have b1 := a13 (by omega) (by omega)
      have b2 := a14 (by omega) (by omega)
      have b3 := a17 hn
      refine ⟨a1, a2, a3, a4, a5, a6, a7, a8, by simp, by simp, a11, by simp, fun _ _ => b1, fun _ _ => b2, by simp, by simp, by simp, fun _ => ⟨by simp, by simp, _, rfl, ⟨by rw [scat_len]; omega, fun x hx => ?_, ?_⟩, scat_len _ _⟩, by simp, by simp⟩
      · have := scat_all s.lens 7 b3.2 _ x hx; omega
      · have hk1 : kd (scat s.lens s.lens.length) = 1 := by omega
        exact kd_kr hk1 (by omega)
theorem ok_readLen (h : Ok s) (hn : s.next = 8) (v n : Nat) (hv : v < 19) (e : readLen s v n = .more t) : Ok t := by
  unfold readLen at e
  split at e
  · cases e
  · split at e
    · cases e
    · split at e
      · cases e
      · cases e
        obtain ⟨a1, a2, a3, a4, a5, a6, a7, a8, a9, a10, a11, a12, a13, a14, a15, a16, a17, a18, a19, a20⟩ := h
        have b1 := a13 (by omega) (by omega)
        have b2 := a14 (by omega) (by omega)
        obtain ⟨b3, b4, b5⟩ := a18 hn
        refine ⟨a1, a2, a3, a4, a5, a6, a7, by simp; omega, a9, a10, a11, by simp [hn], fun _ _ => b1, fun _ _ => b2, by simp [hn], by simp [hn], by simp [hn], fun _ => ⟨by simp; omega, fun x hx => ?_, b5⟩, by simp [hn], by simp [hn]⟩
        simp only [List.mem_append, List.mem_replicate] at hx
        rcases hx with hx | ⟨_, rfl⟩
        · exact b4 x hx
        · unfold length_
          split
          · by_cases hl : s.lens = []
            · simp [hl]
            · rw [List.getLastD_eq_getLast?, List.getLast?_eq_some_getLast hl]; exact b4 _ (List.getLast_mem hl)
          · repeat' split
            all_goals omega
theorem ok_readLengths (h : Ok s) (hn : s.next = 8) (e : readLengths s = .more t) : Ok t := by
  unfold readLengths at e
  split at e
  · unfold readLength at e
    split at e
    · cases e
    · next hc =>
      obtain ⟨_, _, hs, hhs, _, hl⟩ := h.l8 hn
      have := (sym_ok (ls := s.hcode.getD []) (bs := s.bits) (by omega)).2.2.2.2.2
      rw [hhs] at this
      simp only [Option.getD_some] at this
      exact ok_readLen h hn _ _ (by rw [hhs]; simp only [Option.getD_some]; omega) e
  · split at e
    · cases e
    · next hg =>
      cases e
      obtain ⟨a1, a2, a3, a4, a5, a6, a7, a8, a9, a10, a11, a12, a13, a14, a15, a16, a17, a18, a19, a20⟩ := h
      obtain ⟨b3, b4, b5⟩ := a18 hn
      have b1 := a13 (by omega) (by omega)
      have b2 := a14 (by omega) (by omega)
      simp only [goodCodes, Bool.not_eq_false, Bool.and_eq_true, Bool.or_eq_true, beq_iff_eq] at hg
      refine ⟨a1, a2, a3, a4, a5, a6, a7, a8, by simp, by simp, a11, by simp, by simp, by simp, by simp, by simp, by simp, by simp, fun _ => ⟨_, _, rfl, rfl, ⟨by simp; omega, fun x hx => b4 x (List.mem_of_mem_take hx), usable_kr hg.1.2⟩, by simp; omega, fun x hx => b4 x (List.mem_of_mem_drop hx), ?_⟩, by simp⟩
      rcases hg.2 with hg | hg
      · exact kd_kr hg (by omega)
      · exact usable_kr hg
theorem ok_readLiteral (h : Ok s) (hn : s.next = 9) (e : readLiteral s = .more t) : Ok t := by
  unfold readLiteral at e
  split at e
  · cases e
  · unfold readLit at e
    generalize (sym (s.lit.getD []) s.bits).1 = v at *
    generalize (sym (s.lit.getD []) s.bits).2.1 = n at *
    split at e
    · split at e
      · cases e
      · cases e
        obtain ⟨a1, a2, a3, a4, a5, a6, a7, a8, a9, a10, a11, a12, a13, a14, a15, a16, a17, a18, a19, a20⟩ := h
        refine ⟨by simp [put]; omega, a2, a3, a4, by simp [put]; omega, by simp [put]; omega, a7, by simp [put]; omega, a9, a10, a11, by simp [put, hn], by simp [put, hn], by simp [put, hn], by simp [put, hn], by simp [put, hn], by simp [put, hn], by simp [put, hn], a19, by simp [put, hn]⟩
    · split at e
      · cases e
        refine ok_close ?_ (.inr hn)
        obtain ⟨a1, a2, a3, a4, a5, a6, a7, a8, a9, a10, a11, a12, a13, a14, a15, a16, a17, a18, a19, a20⟩ := h
        exact ⟨a1, a2, a3, a4, a5, a6, a7, by simp; omega, a9, a10, a11, by simp [hn], by simp [hn], by simp [hn], by simp [hn], by simp [hn], by simp [hn], by simp [hn], a19, by simp [hn]⟩
      · split at e
        · cases e
        · next l x hb =>
          split at e
          · cases e
          · cases e
            obtain ⟨a1, a2, a3, a4, a5, a6, a7, a8, a9, a10, a11, a12, a13, a14, a15, a16, a17, a18, a19, a20⟩ := h
            obtain ⟨c1, c2, c3⟩ := base_le hb
            have c4 := num_take_lt (s.bits.drop n) x
            exact ⟨a1, a2, a3, a4, a5, a6, a7, by simp; omega, by simp, by simp, a11, by simp, by simp, by simp, by simp, by simp, by simp, by simp, fun _ => a19 (.inl hn), fun _ => ⟨by simp; omega, by simp; omega⟩⟩
theorem ok_readDistance (h : Ok s) (hn : s.next = 10) (e : readDistance s = .more t) : Ok t := by
  unfold readDistance at e
  split at e
  · cases e
  · split at e
    · cases e
    · unfold readDist at e
      split at e
      · cases e
      · split at e
        · cases e
        · unfold copied at e
          split at e
          · cases e
          · cases e
            obtain ⟨a1, a2, a3, a4, a5, a6, a7, a8, a9, a10, a11, a12, a13, a14, a15, a16, a17, a18, a19, a20⟩ := h
            exact ⟨by simp [grow_len]; omega, a2, a3, a4, by simp; omega, by simp [copy_len]; omega, a7, by simp; omega, by simp, by simp, a11, by simp, by simp, by simp, by simp, by simp, by simp, by simp, fun _ => a19 (.inr hn), by simp⟩
theorem Ok.step (h : Ok s) (e : step s = .more t) : Ok t := by
  unfold InfMath.step at e
  split at e
  · next hn => exact ok_opening h hn e
  · next hn => exact ok_readSize h hn e
  · next hn => exact ok_readBytes h hn e
  · next hn => exact ok_readHlit h hn e
  · next hn => exact ok_readHdist h hn e
  · next hn => exact ok_readHclen h hn e
  · next hn => exact ok_readCodeLengths h hn e
  · next hn => exact ok_readLengths h hn e
  · next hn => exact ok_readLiteral h hn e
  · next hn => exact ok_readDistance h hn e
  · cases e
theorem Ok.steps (h : Ok s) (k : Steps s t) : Ok t := by
  induction k with
  | refl => exact h
  | cons e _ ih => exact ih (h.step e)
end

/-- How far it is to the end. -/
def rank (n : Nat) : Nat := if n = 3 then 1 else if n = 7 then 2 else if n = 8 then 1 else 0
def mu (s : M) : Nat := 8 * s.bits.length + rank s.next
theorem rank_le (n : Nat) : rank n ≤ 2 := by unfold rank; repeat' split
                                             all_goals omega
theorem mu_less {s t : M} (k : Nat) (h : t.bits.length + k ≤ s.bits.length) (hk : 1 ≤ k) : mu t < mu s := by
  have := rank_le t.next
  unfold mu; omega
theorem mu_step {s t : M} (e : step s = .more t) : mu t < mu s := by
  unfold InfMath.step at e
  split at e
  · unfold opening at e
    repeat' split at e
    all_goals cases e
    all_goals exact mu_less 1 (by simp; omega) (by omega)
  · unfold readSize at e
    repeat' split at e
    all_goals cases e
    all_goals exact mu_less 1 (by simp; omega) (by omega)
  · next hn =>
    unfold readBytes at e
    split at e
    · cases e
      unfold mu close
      rw [hn]
      simp only
      have : rank 3 = 1 := rfl
      have : rank (if s.final = true then 11 else 1) = 0 := by cases s.final <;> rfl
      omega
    · repeat' split at e
      all_goals cases e
      all_goals exact mu_less 1 (by simp; omega) (by omega)
  · unfold readHlit at e
    repeat' split at e
    all_goals cases e
    all_goals exact mu_less 1 (by simp; omega) (by omega)
  · unfold readHdist at e
    repeat' split at e
    all_goals cases e
    all_goals exact mu_less 1 (by simp; omega) (by omega)
  · unfold readHclen at e
    repeat' split at e
    all_goals cases e
    all_goals exact mu_less 1 (by simp; omega) (by omega)
  · next hn =>
    unfold readCodeLengths at e
    split at e
    · repeat' split at e
      all_goals cases e
      all_goals exact mu_less 1 (by simp; omega) (by omega)
    · split at e
      · cases e
      · cases e
        unfold mu
        rw [hn]
        have : rank 7 = 2 := rfl
        have : rank 8 = 1 := rfl
        simp only
        omega
  · next hn =>
    unfold readLengths at e
    split at e
    · unfold readLength at e
      split at e
      · cases e
      · next hc =>
        have hs := sym_ok (ls := s.hcode.getD []) (bs := s.bits) (by omega)
        unfold readLen at e
        repeat' split at e
        all_goals cases e
        all_goals exact mu_less 1 (by simp; omega) (by omega)
    · split at e
      · cases e
      · cases e
        unfold mu
        rw [hn]
        have : rank 9 = 0 := rfl
        have : rank 8 = 1 := rfl
        simp only
        omega
  · unfold readLiteral at e
    split at e
    · cases e
    · next hc =>
      have hs := sym_ok (ls := s.lit.getD []) (bs := s.bits) (by omega)
      unfold readLit at e
      repeat' split at e
      all_goals cases e
      all_goals exact mu_less 1 (by simp [close]; omega) (by omega)
  · unfold readDistance at e
    split at e
    · cases e
    · split at e
      · cases e
      · next hc =>
        have hs := sym_ok (ls := s.dist.getD []) (bs := s.bits) (by omega)
        unfold readDist at e
        split at e
        · cases e
        · split at e
          · cases e
          · unfold copied at e
            split at e
            · cases e
            · cases e
              exact mu_less 1 (by simp; omega) (by omega)
  · cases e
theorem mu_steps {s t : M} (k : Steps s t) : mu t ≤ mu s := by
  induction k with
  | refl => exact Nat.le_refl _
  | cons e _ ih => have := mu_step e; omega
end InfMath
end

section
/-
  inflate's machine: with more room, with more bits behind. No program, no dump.
-/
namespace InfMath
open BitMath CanMath TabMath WinMath

/-! ### an end without an error -/
theorem lack_ne (s : M) : lack s ≠ 0 := by unfold lack; split <;> decide
theorem bad_ne (s : M) (c : Nat) (h : c ≠ 0) : bad s c ≠ 0 := by unfold bad; split; exact lack_ne s; exact h
theorem halt_zero {s : M} (h1 : 1 ≤ s.next) (h2 : s.next ≤ 11) (h : step s = .halt 0) : s.next = 11 := by
  unfold step at h
  split at h
  · unfold opening at h; repeat' split at h
    all_goals first | (injection h with h; exact absurd h (lack_ne s)) | (injection h with h; cases h) | cases h
  · unfold readSize at h; repeat' split at h
    all_goals first | (injection h with h; exact absurd h (lack_ne s)) | (injection h with h; cases h) | cases h
  · unfold readBytes at h; repeat' split at h
    all_goals first | (injection h with h; exact absurd h (lack_ne s)) | (injection h with h; cases h) | cases h
  · unfold readHlit at h; repeat' split at h
    all_goals first | (injection h with h; exact absurd h (lack_ne s)) | (injection h with h; cases h) | cases h
  · unfold readHdist at h; repeat' split at h
    all_goals first | (injection h with h; exact absurd h (lack_ne s)) | (injection h with h; cases h) | cases h
  · unfold readHclen at h; repeat' split at h
    all_goals first | (injection h with h; exact absurd h (lack_ne s)) | (injection h with h; cases h) | cases h
  · unfold readCodeLengths at h; repeat' split at h
    all_goals first | (injection h with h; exact absurd h (lack_ne s)) | (injection h with h; cases h) | cases h
  · unfold readLengths at h
    split at h
    · unfold readLength at h
      split at h
      · next hc => injection h with h; exact absurd h (bad_ne s _ hc)
      · unfold readLen at h; repeat' split at h
        all_goals first | (injection h with h; exact absurd h (lack_ne s)) | (injection h with h; cases h) | cases h
    · split at h
      all_goals first | (injection h with h; cases h) | cases h
  · unfold readLiteral at h
    split at h
    · next hc => injection h with h; exact absurd h (bad_ne s _ hc)
    · unfold readLit at h; repeat' split at h
      all_goals first | (injection h with h; exact absurd h (lack_ne s)) | (injection h with h; cases h) | cases h
  · unfold readDistance at h
    split at h
    · injection h with h; cases h
    · split at h
      · next hc => injection h with h; exact absurd h (bad_ne s _ hc)
      · unfold readDist at h
        split at h
        · injection h with h; cases h
        · split at h
          · injection h with h; exact absurd h (lack_ne s)
          · unfold copied at h; split at h
            all_goals first | (injection h with h; cases h) | cases h
  · by_cases hx : s.next = 11
    · exact hx
    · exfalso
      rcases (by omega : s.next = 1 ∨ s.next = 2 ∨ s.next = 3 ∨ s.next = 4 ∨ s.next = 5 ∨ s.next = 6 ∨ s.next = 7 ∨ s.next = 8 ∨ s.next = 9 ∨ s.next = 10) with hq | hq | hq | hq | hq | hq | hq | hq | hq | hq <;> first | exact absurd hq (by assumption) | (rename_i z1 z2 z3 z4 z5 z6 z7 z8 z9 z10; first | exact z1 hq | exact z2 hq | exact z3 hq | exact z4 hq | exact z5 hq | exact z6 hq | exact z7 hq | exact z8 hq | exact z9 hq | exact z10 hq)
theorem over_halts {s : M} (h : s.next = 11) : step s = .halt 0 := by unfold step; rw [h]; rfl

/-! ### more room -/
abbrev up (q : Nat) (s : M) : M := { s with most := q }
theorem up_step {s t : M} {q : Nat} (hq : s.most ≤ q) (h : step s = .more t) : step (up q s) = .more (up q t) ∧ t.most = s.most := by
  unfold step at h ⊢
  have e : (up q s).next = s.next := rfl
  rw [e]
  split at h
  · unfold opening at h ⊢
    simp only [up] at h ⊢
    repeat' split at h
    all_goals first | (cases h; done) | skip
    all_goals (cases h; repeat' split)
    all_goals first | exact ⟨rfl, rfl⟩ | contradiction | (exfalso; omega)
  · unfold readSize at h ⊢
    simp only [up] at h ⊢
    repeat' split at h
    all_goals first | (cases h; done) | skip
    all_goals (cases h; repeat' split)
    all_goals first | exact ⟨rfl, rfl⟩ | contradiction | (exfalso; omega)
  · unfold readBytes at h ⊢
    simp only [up, close, put] at h ⊢
    repeat' split at h
    all_goals first | (cases h; done) | skip
    all_goals (cases h; repeat' split)
    all_goals first | exact ⟨rfl, rfl⟩ | contradiction | (exfalso; omega)
  · unfold readHlit at h ⊢
    simp only [up] at h ⊢
    repeat' split at h
    all_goals first | (cases h; done) | skip
    all_goals (cases h; repeat' split)
    all_goals first | exact ⟨rfl, rfl⟩ | contradiction | (exfalso; omega)
  · unfold readHdist at h ⊢
    simp only [up] at h ⊢
    repeat' split at h
    all_goals first | (cases h; done) | skip
    all_goals (cases h; repeat' split)
    all_goals first | exact ⟨rfl, rfl⟩ | contradiction | (exfalso; omega)
  · unfold readHclen at h ⊢
    simp only [up] at h ⊢
    repeat' split at h
    all_goals first | (cases h; done) | skip
    all_goals (cases h; repeat' split)
    all_goals first | exact ⟨rfl, rfl⟩ | contradiction | (exfalso; omega)
  · unfold readCodeLengths at h ⊢
    simp only [up] at h ⊢
    repeat' split at h
    all_goals first | (cases h; done) | skip
    all_goals (cases h; repeat' split)
    all_goals first | exact ⟨rfl, rfl⟩ | contradiction | (exfalso; omega)
  · unfold readLengths at h ⊢
    simp only [up] at h ⊢
    by_cases h1 : s.lens.length < s.hl + s.hd
    · rw [if_pos h1] at h ⊢
      unfold readLength at h ⊢
      simp only at h ⊢
      by_cases h2 : (sym (s.hcode.getD []) s.bits).2.2 ≠ 0
      · rw [if_pos h2] at h; cases h
      · rw [if_neg h2] at h ⊢
        unfold readLen at h ⊢
        simp only at h ⊢
        generalize (sym (s.hcode.getD []) s.bits).1 = v at *
        generalize (sym (s.hcode.getD []) s.bits).2.1 = n at *
        repeat' split at h
        all_goals first | (cases h; done) | skip
        all_goals (cases h; repeat' split)
        all_goals first | exact ⟨rfl, rfl⟩ | contradiction | (exfalso; omega)
    · rw [if_neg h1] at h ⊢
      repeat' split at h
      all_goals first | (cases h; done) | skip
      all_goals (cases h; repeat' split)
      all_goals first | exact ⟨rfl, rfl⟩ | contradiction | (exfalso; omega)
  · unfold readLiteral at h ⊢
    simp only [up] at h ⊢
    by_cases h2 : (sym (s.lit.getD []) s.bits).2.2 ≠ 0
    · rw [if_pos h2] at h; cases h
    · rw [if_neg h2] at h ⊢
      unfold readLit at h ⊢
      simp only [close, put] at h ⊢
      generalize (sym (s.lit.getD []) s.bits).1 = v at *
      generalize (sym (s.lit.getD []) s.bits).2.1 = n at *
      by_cases h1 : v < 256
      · rw [if_pos h1] at h ⊢
        by_cases h3 : s.most ≤ s.total
        · rw [if_pos h3] at h; cases h
        · rw [if_neg h3] at h; rw [if_neg (by omega)]; cases h; exact ⟨rfl, rfl⟩
      · rw [if_neg h1] at h ⊢
        by_cases h3 : v = 256
        · rw [if_pos h3] at h ⊢; cases h; exact ⟨rfl, rfl⟩
        · rw [if_neg h3] at h ⊢
          split at h
          · cases h
          · next l x hb =>
            by_cases h4 : s.bits.length < n + x
            · rw [if_pos h4] at h; cases h
            · rw [if_neg h4] at h ⊢; cases h; exact ⟨rfl, rfl⟩
  · unfold readDistance at h ⊢
    simp only [up] at h ⊢
    by_cases h1 : s.most < s.total + s.matching
    · rw [if_pos h1] at h; cases h
    · rw [if_neg h1] at h; rw [if_neg (by omega)]
      by_cases h2 : (sym (s.dist.getD []) s.bits).2.2 ≠ 0
      · rw [if_pos h2] at h; cases h
      · rw [if_neg h2] at h ⊢
        unfold readDist at h ⊢
        simp only at h ⊢
        generalize (sym (s.dist.getD []) s.bits).1 = v at *
        generalize (sym (s.dist.getD []) s.bits).2.1 = n at *
        split at h
        · cases h
        · next l x hb =>
          by_cases h4 : s.bits.length < n + x
          · rw [if_pos h4] at h; cases h
          · rw [if_neg h4] at h ⊢
            unfold copied at h ⊢
            simp only at h ⊢
            by_cases h5 : min s.hist.length s.size < l + num ((s.bits.drop n).take x)
            · rw [if_pos h5] at h; cases h
            · rw [if_neg h5] at h ⊢; cases h; exact ⟨rfl, rfl⟩
  · cases h
theorem up_steps {s t : M} {q : Nat} (hq : s.most ≤ q) (h : Steps s t) : Steps (up q s) (up q t) := by
  induction h with
  | refl => exact .refl _
  | cons h _ ih => exact .cons (up_step hq h).1 (ih (by rw [(up_step hq h).2]; exact hq))
theorem up_ends {s t : M} {q : Nat} (hs : Ok s) (hq : s.most ≤ q) (h : Ends s t 0) : Ends (up q s) (up q t) 0 := by
  have ho := hs.steps h.1
  have h11 := halt_zero ho.next1 ho.next2 h.2
  exact ⟨up_steps hq h.1, over_halts h11⟩
end InfMath
end

section
/-
  inflate's machine with more bits behind. No program, no dump.
-/
namespace InfMath
open BitMath CanMath TabMath WinMath

abbrev ext (s : M) (z : List Bool) : M := { s with bits := s.bits ++ z }

theorem take_ext {bs z : List Bool} {n : Nat} (h : n ≤ bs.length) : (bs ++ z).take n = bs.take n := List.take_append_of_le_length h
theorem drop_ext {bs z : List Bool} {n : Nat} (h : n ≤ bs.length) : (bs ++ z).drop n = bs.drop n ++ z := List.drop_append_of_le_length h
theorem drop_take_ext {bs z : List Bool} {n x : Nat} (h : n + x ≤ bs.length) : ((bs ++ z).drop n).take x = (bs.drop n).take x := by
  rw [drop_ext (by omega), take_ext (by rw [List.length_drop]; omega)]

theorem num_mod_take (bs : List Bool) (a : Nat) : num bs % 2 ^ a = num (bs.take a) := by
  by_cases h : a ≤ bs.length
  · have e : num bs = num (bs.take a ++ bs.drop a) := by rw [List.take_append_drop]
    have hl : (bs.take a).length = a := by simp; omega
    rw [e, num_append, hl, Nat.add_mul_mod_self_left, Nat.mod_eq_of_lt]
    have := num_lt (bs.take a); rw [hl] at this; exact this
  · rw [List.take_of_length_le (by omega), Nat.mod_eq_of_lt]
    exact Nat.lt_of_lt_of_le (num_lt _) (Nat.pow_le_pow_right (by omega) (by omega))

/-- Bits behind change nothing of a symbol that stands there. -/
theorem sym_ext {ls : List Nat} {bs : List Bool} (z : List Bool) (hc : CodeOk ls) (h : (sym ls bs).2.2 = 0) : sym ls (bs ++ z) = sym ls bs := by
  obtain ⟨h1, h2, h3, h4, h5, h6⟩ := sym_ok h
  obtain ⟨i, hi⟩ : ∃ i, i = (sym ls bs).1 := ⟨_, rfl⟩
  rw [← hi] at h1 h2 h6
  have hn : ln ls i = (sym ls bs).2.1 := h2.symm
  have hs : sym ls bs = (i, ln ls i, 0) := by rw [← h2, hi, ← h]
  have hx : Has ls (num ((bs ++ z).take 15)) i := by
    refine ⟨h1.1, ?_⟩
    rw [← h1.2, num_mod_take, num_mod_take, List.take_take, List.take_take, Nat.min_eq_left (by omega), take_ext (by omega)]
  rw [hs]
  unfold sym
  rw [who_some hc.all hc.kr hx]
  have e1 : ¬ ln ls i = 0 := by have := h1.1; omega
  simp only
  rw [if_neg e1, if_neg (by simp; omega)]
/-- Codes that tell the end of what is no code. -/
def Tells (ls : List Nat) : Prop := kd ls ≤ 2
theorem sym_none {ls : List Nat} {bs : List Bool} (z : List Bool) (hc : CodeOk ls) (ht : Tells ls) (h : (sym ls bs).2.2 = 2) : (sym ls (bs ++ z)).2.2 = 2 := by
  have hw : (who ls (num (bs.take 15))).l = 0 := by
    unfold sym at h
    by_cases h1 : (who ls (num (bs.take 15))).l = 0
    · exact h1
    · rw [if_neg h1] at h
      split at h <;> simp at h
  have hno : ∀ i, ¬ Has ls (num (bs.take 15)) i := fun i hi => by
    rw [who_some hc.all hc.kr hi] at hw
    have := hi.1
    simp only at hw
    omega
  suffices hs : ∀ i, ¬ Has ls (num ((bs ++ z).take 15)) i by
    unfold sym
    rw [who_none hs]
    rfl
  unfold Tells kd at ht
  by_cases h4 : 32768 < CanMath.kr ls
  · rw [if_pos h4] at ht; omega
  · rw [if_neg h4] at ht
    by_cases h0 : CanMath.kr ls = 0
    · intro i hi
      have h1 := hi.1
      have hl := ln_lt h1
      have h2 := start_room ls hc.all i hl (by rw [← ln_eq ls i hl]; exact h1)
      have h3 := share_pos (n := ls[i]) (by rw [← ln_eq ls i hl]; exact h1)
      omega
    · rw [if_neg h0] at ht
      by_cases h1 : CanMath.kr ls = 32768
      · exfalso
        obtain ⟨i, hi⟩ := fits_some ls hc.all (rc 15 (num (bs.take 15))) (by rw [h1]; exact rc_lt 15 _)
        exact hno i ((has_fits hc.all hc.kr _ _).2 hi)
      · rw [if_neg h1] at ht
        by_cases h2 : CanMath.kr ls = 16384 ∧ ls.count 1 = 1
        · obtain ⟨k, hk, hk1, _⟩ := count_at ls 1 0 (by omega)
          have hlk : ln ls k = 1 := by rw [ln_eq ls k hk]; exact hk1
          have hs := start_room ls hc.all k hk (by omega)
          have hwd : wd ls k = 0 := by
            have hcl := (has_fits hc.all hc.kr (wd ls k) k).1 ⟨by omega, Nat.mod_eq_of_lt (wd_lt ls k)⟩
            obtain ⟨_, _, hf⟩ := hcl
            have hlt := wd_lt ls k
            rw [hlk] at hlt
            rcases (by omega : wd ls k = 0 ∨ wd ls k = 1) with h | h
            · exact h
            · rw [h] at hf
              rw [hk1] at hf hs
              have : rc 15 1 / 2 ^ (15 - 1) = 1 := by decide +kernel
              rw [this] at hf
              unfold CanMath.start at hs
              rw [← hf] at hs
              have : share 1 = 16384 := by decide
              omega
          have honly : ∀ i, 1 ≤ ln ls i → i = k := by
            intro i hi
            have hl := ln_lt hi
            by_cases he : i = k
            · exact he
            · exfalso
              have hi2 : 1 ≤ ls[i] := by rw [← ln_eq ls i hl]; exact hi
              have h3 := start_room ls hc.all i hl hi2
              have h5 := share_pos (n := ls[i]) hi2
              have h6 := sides ls hc.all i k hl hk hi2 (by omega) he
              rw [hk1] at h6 hs
              have : share 1 = 16384 := by decide
              omega
          intro i hi
          have he := honly i hi.1
          subst he
          refine hno i ⟨hi.1, ?_⟩
          have hx := hi.2
          rw [hlk, hwd, num_mod_take, List.take_take] at hx
          rw [hlk, hwd, num_mod_take, List.take_take]
          rcases bs with _ | ⟨b, bs⟩
          · rfl
          · simpa using hx
        · rw [if_neg h2] at ht; omega

/-- The codes in use are good ones. -/
structure Gd (s : M) : Prop where
  hc : s.next = 8 → ∃ hs, s.hcode = some hs ∧ Tells hs
  ld : s.next = 9 ∨ s.next = 10 → ∃ l d, s.lit = some l ∧ s.dist = some d ∧ Tells l ∧ Tells d
theorem gd_other {t : M} (h : t.next ≠ 8 ∧ t.next ≠ 9 ∧ t.next ≠ 10) : Gd t := ⟨fun e => absurd e h.1, fun e => by rcases e with e | e; exact absurd e h.2.1; exact absurd e h.2.2⟩
theorem fix_tells : Tells fixL ∧ Tells fixD := ⟨by unfold Tells; decide +kernel, by unfold Tells; decide +kernel⟩
theorem gd_step {s t : M} (g : Gd s) (h : step s = .more t) : Gd t := by
  unfold step at h
  split at h
  · unfold opening at h
    have hf : ∃ l d, some fixL = some l ∧ some fixD = some d ∧ Tells l ∧ Tells d := ⟨_, _, rfl, rfl, fix_tells⟩
    generalize fixL = fl at *
    generalize fixD = fd at *
    repeat' split at h
    all_goals cases h
    · exact gd_other (by simp)
    · exact ⟨by simp, fun _ => hf⟩
    · exact gd_other (by simp)
  · next hn =>
    unfold readSize at h
    repeat' split at h
    all_goals cases h
    · exact gd_other (by simp [hn])
    · exact gd_other (by simp)
  · next hn =>
    unfold readBytes close put at h
    repeat' split at h
    all_goals cases h
    all_goals exact gd_other (by simp <;> omega)
  · unfold readHlit at h
    repeat' split at h
    all_goals cases h
    exact gd_other (by simp)
  · unfold readHdist at h
    repeat' split at h
    all_goals cases h
    exact gd_other (by simp)
  · unfold readHclen at h
    repeat' split at h
    all_goals cases h
    exact gd_other (by simp)
  · next hn =>
    unfold readCodeLengths at h
    split at h
    · repeat' split at h
      all_goals cases h
      exact gd_other (by simp [hn])
    · split at h
      · cases h
      · next hk => cases h; exact ⟨fun _ => ⟨_, rfl, by unfold Tells; omega⟩, by simp⟩
  · next hn =>
    unfold readLengths at h
    split at h
    · unfold readLength at h
      split at h
      · cases h
      · unfold readLen at h
        repeat' split at h
        all_goals cases h
        exact ⟨fun _ => g.hc hn, by simp [hn]⟩
    · split at h
      · cases h
      · next hg =>
        cases h
        simp only [goodCodes, usable, Bool.not_eq_false, Bool.and_eq_true, Bool.or_eq_true, beq_iff_eq] at hg
        exact ⟨by simp, fun _ => ⟨_, _, rfl, rfl, by unfold Tells; omega, by unfold Tells; omega⟩⟩
  · next hn =>
    unfold readLiteral at h
    split at h
    · cases h
    · unfold readLit close put at h
      split at h
      · split at h
        · cases h
        · cases h; exact ⟨by simp [hn], fun _ => g.ld (.inl hn)⟩
      · split at h
        · cases h
          refine gd_other ?_
          simp only
          cases s.final <;> simp
        · split at h
          · cases h
          · split at h
            · cases h
            · cases h; exact ⟨by simp, fun _ => g.ld (.inl hn)⟩
  · next hn =>
    unfold readDistance at h
    split at h
    · cases h
    · split at h
      · cases h
      · unfold readDist at h
        split at h
        · cases h
        · split at h
          · cases h
          · unfold copied at h
            split at h
            · cases h
            · cases h; exact ⟨by simp, fun _ => g.ld (.inr hn)⟩
  · cases h
theorem gd_steps {s t : M} (g : Gd s) (h : Steps s t) : Gd t := by
  induction h with
  | refl => exact g
  | cons h _ ih => exact ih (gd_step g h)

theorem bits_ext (s : M) (z : List Bool) : (ext s z).bits = s.bits ++ z := rfl
/-- A step goes the same way with bits behind. -/
theorem ext_step {s t : M} (z : List Bool) (hz : z.length % 8 = 0) (ho : Ok s) (h : step s = .more t) : step (ext s z) = .more (ext t z) := by
  have ho2 := ho.step h
  unfold step at h ⊢
  have e : (ext s z).next = s.next := rfl
  rw [e]
  split at h
  · unfold opening at h ⊢
    simp only [ext, List.length_append] at h ⊢
    by_cases h1 : s.bits.length < 3
    · rw [if_pos h1] at h; cases h
    · rw [if_neg h1] at h; rw [if_neg (by omega), take_ext (by omega), drop_ext (by omega)]
      repeat' split at h
      all_goals first | cases h | skip
      all_goals simp_all
  · unfold readSize at h ⊢
    simp only [ext, List.length_append] at h ⊢
    have e8 : (s.bits.length + z.length) % 8 = s.bits.length % 8 := by omega
    rw [e8]
    by_cases h1 : s.bits.length % 8 ≠ 0
    · rw [if_pos h1] at h ⊢; cases h; simp only; rw [drop_ext (Nat.mod_le _ _)]
    · rw [if_neg h1] at h ⊢
      by_cases h2 : s.bits.length < 32
      · rw [if_pos h2] at h; cases h
      · rw [if_neg h2] at h; rw [if_neg (by omega), take_ext (by omega), drop_take_ext (by omega), drop_ext (by omega)]
        split at h
        · cases h
        · next h3 => rw [if_neg h3]; cases h; rfl
  · unfold readBytes at h ⊢
    simp only [ext, List.length_append, close, put] at h ⊢
    by_cases h1 : s.left = 0
    · rw [if_pos h1] at h ⊢; cases h; rfl
    · rw [if_neg h1] at h ⊢
      by_cases h2 : s.bits.length < 8
      · rw [if_pos h2] at h; cases h
      · rw [if_neg h2] at h; rw [if_neg (by omega), take_ext (by omega), drop_ext (by omega)]
        by_cases h3 : s.most ≤ s.total
        · rw [if_pos h3] at h; cases h
        · rw [if_neg h3] at h ⊢; cases h; rfl
  · unfold readHlit at h ⊢
    simp only [ext, List.length_append] at h ⊢
    by_cases h1 : s.bits.length < 5
    · rw [if_pos h1] at h; cases h
    · rw [if_neg h1] at h; rw [if_neg (by omega), take_ext (by omega), drop_ext (by omega)]
      split at h
      · cases h
      · next h3 => rw [if_neg h3]; cases h; rfl
  · unfold readHdist at h ⊢
    simp only [ext, List.length_append] at h ⊢
    by_cases h1 : s.bits.length < 5
    · rw [if_pos h1] at h; cases h
    · rw [if_neg h1] at h; rw [if_neg (by omega), take_ext (by omega), drop_ext (by omega)]
      split at h
      · cases h
      · next h3 => rw [if_neg h3]; cases h; rfl
  · unfold readHclen at h ⊢
    simp only [ext, List.length_append] at h ⊢
    by_cases h1 : s.bits.length < 4
    · rw [if_pos h1] at h; cases h
    · rw [if_neg h1] at h; rw [if_neg (by omega), take_ext (by omega), drop_ext (by omega)]; cases h; rfl
  · unfold readCodeLengths at h ⊢
    simp only [ext, List.length_append] at h ⊢
    by_cases h0 : s.lens.length < s.hc
    · rw [if_pos h0] at h ⊢
      by_cases h1 : s.bits.length < 3
      · rw [if_pos h1] at h; cases h
      · rw [if_neg h1] at h; rw [if_neg (by omega), take_ext (by omega), drop_ext (by omega)]; cases h; rfl
    · rw [if_neg h0] at h ⊢
      split at h
      · cases h
      · next h3 => rw [if_neg h3]; cases h; rfl
  · next hn =>
    unfold readLengths at h ⊢
    simp only [ext] at h ⊢
    by_cases h1 : s.lens.length < s.hl + s.hd
    · rw [if_pos h1] at h ⊢
      unfold readLength at h ⊢
      simp only at h ⊢
      obtain ⟨_, _, hs, hhs, hok, _⟩ := ho.l8 hn
      simp only [hhs, Option.getD_some] at h ⊢
      by_cases h2 : (sym hs s.bits).2.2 ≠ 0
      · rw [if_pos h2] at h; cases h
      · rw [if_neg h2] at h
        have h20 : (sym hs s.bits).2.2 = 0 := by omega
        rw [sym_ext z hok h20, if_neg h2]
        obtain ⟨_, _, _, hb, _, _⟩ := sym_ok h20
        generalize (sym hs s.bits).1 = v at *
        generalize (sym hs s.bits).2.1 = n at *
        unfold readLen at h ⊢
        simp only [List.length_append] at h ⊢
        by_cases h3 : v = 16 ∧ s.lens = []
        · rw [if_pos h3] at h; cases h
        · rw [if_neg h3] at h ⊢
          by_cases h4 : s.bits.length < n + extra v
          · rw [if_pos h4] at h; cases h
          · rw [if_neg h4] at h; rw [if_neg (by omega), drop_take_ext (by omega), drop_ext (by omega)]
            split at h
            · cases h
            · next h5 => rw [if_neg h5]; cases h; first | rfl | rw [← hhs]
    · rw [if_neg h1] at h ⊢
      split at h
      · cases h
      · next h5 => rw [if_neg h5]; cases h; first | rfl | rw [← hhs]
  · next hn =>
    unfold readLiteral at h ⊢
    simp only [ext] at h ⊢
    obtain ⟨l, d, hl, hd, hokl, hokd⟩ := ho.lit (.inl hn)
    simp only [hl, Option.getD_some] at h ⊢
    by_cases h2 : (sym l s.bits).2.2 ≠ 0
    · rw [if_pos h2] at h; cases h
    · rw [if_neg h2] at h
      have h20 : (sym l s.bits).2.2 = 0 := by omega
      rw [sym_ext z hokl h20, if_neg h2]
      obtain ⟨_, _, _, hb, _, _⟩ := sym_ok h20
      generalize (sym l s.bits).1 = v at *
      generalize (sym l s.bits).2.1 = n at *
      unfold readLit at h ⊢
      simp only [close, put, List.length_append] at h ⊢
      by_cases h1 : v < 256
      · rw [if_pos h1] at h ⊢
        by_cases h3 : s.most ≤ s.total
        · rw [if_pos h3] at h; cases h
        · rw [if_neg h3] at h ⊢; rw [drop_ext hb]; cases h; first | rfl | rw [← hl]
      · rw [if_neg h1] at h ⊢
        by_cases h3 : v = 256
        · rw [if_pos h3] at h ⊢; rw [drop_ext hb]; cases h; first | rfl | rw [← hl]
        · rw [if_neg h3] at h ⊢
          split at h
          · cases h
          · next l x hb =>
            by_cases h4 : s.bits.length < n + x
            · rw [if_pos h4] at h; cases h
            · rw [if_neg h4] at h; rw [if_neg (by omega), drop_take_ext (by omega), drop_ext (by omega)]; cases h; first | rfl | rw [← hl]
  · next hn =>
    unfold readDistance at h ⊢
    simp only [ext] at h ⊢
    obtain ⟨l, d, hl, hd, hokl, hokd⟩ := ho.lit (.inr hn)
    simp only [hd, Option.getD_some] at h ⊢
    by_cases h1 : s.most < s.total + s.matching
    · rw [if_pos h1] at h; cases h
    · rw [if_neg h1] at h ⊢
      by_cases h2 : (sym d s.bits).2.2 ≠ 0
      · rw [if_pos h2] at h; cases h
      · rw [if_neg h2] at h
        have h20 : (sym d s.bits).2.2 = 0 := by omega
        rw [sym_ext z hokd h20, if_neg h2]
        generalize (sym d s.bits).1 = v at *
        generalize (sym d s.bits).2.1 = n at *
        unfold readDist at h ⊢
        simp only [List.length_append] at h ⊢
        split at h
        · cases h
        · next l x hb =>
          by_cases h4 : s.bits.length < n + x
          · rw [if_pos h4] at h; cases h
          · rw [if_neg h4] at h; rw [if_neg (by omega), drop_take_ext (by omega)]
            unfold copied at h ⊢
            simp only at h ⊢
            rw [drop_ext (by omega)]
            split at h
            · cases h
            · next h5 => rw [if_neg h5]; cases h; first | rfl | rw [← hd]
  · cases h
theorem ext_steps {s t : M} (z : List Bool) (hz : z.length % 8 = 0) (ho : Ok s) (h : Steps s t) : Steps (ext s z) (ext t z) := by
  induction h with
  | refl => exact .refl _
  | cons h _ ih => exact .cons (ext_step z hz ho h) (ih (ho.step h))
end InfMath
end

section
/-
  inflate's machine where it ends: with more bits behind, with no more to come; where bits lack. No program, no dump.
-/
namespace InfMath
open BitMath CanMath TabMath WinMath

theorem bits_step {s t : M} (h : step s = .more t) : t.bits.length ≤ s.bits.length := by
  have h1 := mu_step h
  have h2 := rank_le s.next
  unfold mu at h1
  omega
theorem bits_steps {s t : M} (h : Steps s t) : t.bits.length ≤ s.bits.length := by
  induction h with
  | refl => exact Nat.le_refl _
  | cons h _ ih => have := bits_step h; omega
theorem lack5 {s : M} (he : s.ended = false) : lack s = 5 := by unfold lack; rw [he]; rfl
theorem bad5 {s : M} (he : s.ended = false) (c : Nat) : bad s c = c := by
  by_cases h : c = 5
  · unfold bad; rw [if_pos h, lack5 he, h]
  · unfold bad; rw [if_neg h]

/-- Every set of steps comes to an end. -/
theorem ends_some (s : M) : ∃ t c, Ends s t c := by
  obtain ⟨n, hn⟩ : ∃ n, n = mu s := ⟨_, rfl⟩
  induction n using Nat.strongRecOn generalizing s with
  | ind n ih =>
    cases h : step s with
    | halt c => exact ⟨s, c, .refl _, h⟩
    | more t =>
      obtain ⟨u, c, hu⟩ := ih (mu t) (by have := mu_step h; omega) t rfl
      exact ⟨u, c, .one h hu⟩

/-- An end for another reason than that bits lack stays that end. -/
theorem halt_ext {s : M} {c : Nat} (z : List Bool) (hz : z.length % 8 = 0) (ho : Ok s) (g : Gd s) (he : s.ended = false) (hc : c ≠ 5) (h : step s = .halt c) : step (ext s z) = .halt c := by
  have hl := lack5 he
  unfold step at h ⊢
  have e : (ext s z).next = s.next := rfl
  rw [e]
  split at h
  · unfold opening at h ⊢
    simp only [ext, List.length_append] at h ⊢
    by_cases h1 : s.bits.length < 3
    · rw [if_pos h1, hl] at h; cases h; exact absurd rfl hc
    · rw [if_neg h1] at h; rw [if_neg (by omega), take_ext (by omega)]
      repeat' split at h
      all_goals first | cases h | skip
      all_goals simp_all
  · unfold readSize at h ⊢
    simp only [ext, List.length_append] at h ⊢
    have e8 : (s.bits.length + z.length) % 8 = s.bits.length % 8 := by omega
    rw [e8]
    by_cases h1 : s.bits.length % 8 ≠ 0
    · rw [if_pos h1] at h; cases h
    · rw [if_neg h1] at h ⊢
      by_cases h2 : s.bits.length < 32
      · rw [if_pos h2, hl] at h; cases h; exact absurd rfl hc
      · rw [if_neg h2] at h; rw [if_neg (by omega), take_ext (by omega), drop_take_ext (by omega)]
        split at h
        · next h3 => rw [if_pos h3]; exact h
        · cases h
  · unfold readBytes at h ⊢
    simp only [ext, List.length_append] at h ⊢
    by_cases h1 : s.left = 0
    · rw [if_pos h1] at h; cases h
    · rw [if_neg h1] at h ⊢
      by_cases h2 : s.bits.length < 8
      · rw [if_pos h2, hl] at h; cases h; exact absurd rfl hc
      · rw [if_neg h2] at h; rw [if_neg (by omega)]
        by_cases h3 : s.most ≤ s.total
        · rw [if_pos h3] at h ⊢; exact h
        · rw [if_neg h3] at h; cases h
  · unfold readHlit at h ⊢
    simp only [ext, List.length_append] at h ⊢
    by_cases h1 : s.bits.length < 5
    · rw [if_pos h1, hl] at h; cases h; exact absurd rfl hc
    · rw [if_neg h1] at h; rw [if_neg (by omega), take_ext (by omega)]
      split at h
      · next h3 => rw [if_pos h3]; exact h
      · cases h
  · unfold readHdist at h ⊢
    simp only [ext, List.length_append] at h ⊢
    by_cases h1 : s.bits.length < 5
    · rw [if_pos h1, hl] at h; cases h; exact absurd rfl hc
    · rw [if_neg h1] at h; rw [if_neg (by omega), take_ext (by omega)]
      split at h
      · next h3 => rw [if_pos h3]; exact h
      · cases h
  · unfold readHclen at h ⊢
    simp only [ext, List.length_append] at h ⊢
    by_cases h1 : s.bits.length < 4
    · rw [if_pos h1, hl] at h; cases h; exact absurd rfl hc
    · rw [if_neg h1] at h; cases h
  · unfold readCodeLengths at h ⊢
    simp only [ext, List.length_append] at h ⊢
    by_cases h0 : s.lens.length < s.hc
    · rw [if_pos h0] at h
      by_cases h1 : s.bits.length < 3
      · rw [if_pos h1, hl] at h; cases h; exact absurd rfl hc
      · rw [if_neg h1] at h; cases h
    · rw [if_neg h0] at h ⊢
      split at h
      · next h3 => rw [if_pos h3]; exact h
      · cases h
  · next hn =>
    unfold readLengths at h ⊢
    simp only [ext] at h ⊢
    by_cases h1 : s.lens.length < s.hl + s.hd
    · rw [if_pos h1] at h ⊢
      unfold readLength at h ⊢
      simp only at h ⊢
      obtain ⟨_, _, hs, hhs, hok, _⟩ := ho.l8 hn
      obtain ⟨hs2, hhs2, htl⟩ := g.hc hn
      obtain rfl : hs = hs2 := by rw [hhs] at hhs2; injection hhs2
      simp only [hhs, Option.getD_some] at h ⊢
      by_cases h2 : (sym hs s.bits).2.2 ≠ 0
      · rw [if_pos h2, bad5 he] at h
        injection h with h
        rcases sym_code hs s.bits with q | q | q
        · exact absurd q h2
        · have q2 := sym_none z hok htl q
          rw [if_pos (by rw [q2]; decide), q2, ← h, q]
          unfold bad; rw [if_neg (by decide)]
        · rw [q] at h; exact absurd h.symm hc
      · rw [if_neg h2] at h
        have h20 : (sym hs s.bits).2.2 = 0 := by omega
        rw [sym_ext z hok h20, if_neg h2]
        generalize (sym hs s.bits).1 = v at *
        generalize (sym hs s.bits).2.1 = n at *
        unfold readLen at h ⊢
        simp only [List.length_append] at h ⊢
        by_cases h3 : v = 16 ∧ s.lens = []
        · rw [if_pos h3] at h ⊢; exact h
        · rw [if_neg h3] at h ⊢
          by_cases h4 : s.bits.length < n + extra v
          · rw [if_pos h4, hl] at h; cases h; exact absurd rfl hc
          · rw [if_neg h4] at h; rw [if_neg (by omega), drop_take_ext (by omega)]
            split at h
            · next h5 => rw [if_pos h5]; exact h
            · cases h
    · rw [if_neg h1] at h ⊢
      split at h
      · next h5 => rw [if_pos h5]; exact h
      · cases h
  · next hn =>
    unfold readLiteral at h ⊢
    simp only [ext] at h ⊢
    obtain ⟨l, d, hl1, hd1, hokl, hokd⟩ := ho.lit (.inl hn)
    obtain ⟨l2, d2, hl2, hd2, htl, htd⟩ := g.ld (.inl hn)
    obtain rfl : l = l2 := by rw [hl1] at hl2; injection hl2
    simp only [hl1, Option.getD_some] at h ⊢
    by_cases h2 : (sym l s.bits).2.2 ≠ 0
    · rw [if_pos h2, bad5 he] at h
      injection h with h
      rcases sym_code l s.bits with q | q | q
      · exact absurd q h2
      · have q2 := sym_none z hokl htl q
        rw [if_pos (by rw [q2]; decide), q2, ← h, q]
        unfold bad; rw [if_neg (by decide)]
      · rw [q] at h; exact absurd h.symm hc
    · rw [if_neg h2] at h
      have h20 : (sym l s.bits).2.2 = 0 := by omega
      rw [sym_ext z hokl h20, if_neg h2]
      obtain ⟨_, _, _, hb, _, _⟩ := sym_ok h20
      generalize (sym l s.bits).1 = v at *
      generalize (sym l s.bits).2.1 = n at *
      unfold readLit at h ⊢
      simp only [List.length_append] at h ⊢
      by_cases h1 : v < 256
      · rw [if_pos h1] at h ⊢
        by_cases h3 : s.most ≤ s.total
        · rw [if_pos h3] at h ⊢; exact h
        · rw [if_neg h3] at h; cases h
      · rw [if_neg h1] at h ⊢
        by_cases h3 : v = 256
        · rw [if_pos h3] at h; cases h
        · rw [if_neg h3] at h ⊢
          split at h
          · exact h
          · next l x hb =>
            by_cases h4 : s.bits.length < n + x
            · rw [if_pos h4, hl] at h; cases h; exact absurd rfl hc
            · rw [if_neg h4] at h; cases h
  · next hn =>
    unfold readDistance at h ⊢
    simp only [ext] at h ⊢
    obtain ⟨l, d, hl1, hd1, hokl, hokd⟩ := ho.lit (.inr hn)
    obtain ⟨l2, d2, hl2, hd2, htl, htd⟩ := g.ld (.inr hn)
    obtain rfl : d = d2 := by rw [hd1] at hd2; injection hd2
    simp only [hd1, Option.getD_some] at h ⊢
    by_cases h1 : s.most < s.total + s.matching
    · rw [if_pos h1] at h ⊢; exact h
    · rw [if_neg h1] at h ⊢
      by_cases h2 : (sym d s.bits).2.2 ≠ 0
      · rw [if_pos h2, bad5 he] at h
        injection h with h
        rcases sym_code d s.bits with q | q | q
        · exact absurd q h2
        · have q2 := sym_none z hokd htd q
          rw [if_pos (by rw [q2]; decide), q2, ← h, q]
          unfold bad; rw [if_neg (by decide)]
        · rw [q] at h; exact absurd h.symm hc
      · rw [if_neg h2] at h
        have h20 : (sym d s.bits).2.2 = 0 := by omega
        rw [sym_ext z hokd h20, if_neg h2]
        generalize (sym d s.bits).1 = v at *
        generalize (sym d s.bits).2.1 = n at *
        unfold readDist at h ⊢
        simp only [List.length_append] at h ⊢
        split at h
        · exact h
        · next l x hb =>
          by_cases h4 : s.bits.length < n + x
          · rw [if_pos h4, hl] at h; cases h; exact absurd rfl hc
          · rw [if_neg h4] at h; rw [if_neg (by omega), drop_take_ext (by omega)]
            unfold copied at h ⊢
            simp only at h ⊢
            split at h
            · next h5 => rw [if_pos h5]; exact h
            · cases h
  · exact h

/-- A symbol whose bits lack takes more bits than there are. -/
theorem sym_short {ls : List Nat} {bs : List Bool} (z : List Bool) (hc : CodeOk ls) (h : (sym ls bs).2.2 = 5) (h2 : (sym ls (bs ++ z)).2.2 = 0) : bs.length < (sym ls (bs ++ z)).2.1 := by
  obtain ⟨k1, k2, k3, k4, k5, k6⟩ := sym_ok h2
  by_cases hx : bs.length < (sym ls (bs ++ z)).2.1
  · exact hx
  · exfalso
    generalize (sym ls (bs ++ z)).1 = i at *
    rw [k2] at hx k3 k5
    have hx2 : Has ls (num (bs.take 15)) i := by
      refine ⟨k1.1, ?_⟩
      rw [← k1.2, num_mod_take, num_mod_take, List.take_take, List.take_take, Nat.min_eq_left (by omega), take_ext (by omega)]
    unfold sym at h
    rw [who_some hc.all hc.kr hx2] at h
    simp only at h
    rw [if_neg (by omega), if_neg (by omega)] at h
    cases h
/-- Where bits lack, the step with bits behind takes some of these. -/
theorem short_step {s m : M} (z : List Bool) (hz : z.length % 8 = 0) (ho : Ok s) (h : step s = .halt 5) (h2 : step (ext s z) = .more m) : m.bits.length < z.length := by
  unfold step at h h2
  have e : (ext s z).next = s.next := rfl
  rw [e] at h2
  split at h
  · next hn =>
    rw [hn] at h2
    simp only at h2
    unfold opening at h h2
    simp only [ext, List.length_append] at h2
    by_cases h1 : s.bits.length < 3
    · repeat' split at h2
      all_goals first | cases h2 | skip
      all_goals simp; omega
    · rw [if_neg h1] at h
      repeat' split at h
      all_goals cases h
  · next hn =>
    rw [hn] at h2
    simp only at h2
    unfold readSize at h h2
    simp only [ext, List.length_append] at h2
    have e8 : (s.bits.length + z.length) % 8 = s.bits.length % 8 := by omega
    rw [e8] at h2
    by_cases h1 : s.bits.length % 8 ≠ 0
    · rw [if_pos h1] at h; cases h
    · rw [if_neg h1] at h h2
      by_cases h3 : s.bits.length < 32
      · repeat' split at h2
        all_goals first | cases h2 | skip
        all_goals simp; omega
      · rw [if_neg h3] at h
        split at h
        all_goals cases h
  · next hn =>
    rw [hn] at h2
    simp only at h2
    unfold readBytes at h h2
    simp only [ext, List.length_append, put] at h2
    by_cases h1 : s.left = 0
    · rw [if_pos h1] at h; cases h
    · rw [if_neg h1] at h h2
      by_cases h3 : s.bits.length < 8
      · repeat' split at h2
        all_goals first | cases h2 | skip
        all_goals simp; omega
      · rw [if_neg h3] at h
        split at h
        all_goals cases h
  · next hn =>
    rw [hn] at h2
    simp only at h2
    unfold readHlit at h h2
    simp only [ext, List.length_append] at h2
    by_cases h3 : s.bits.length < 5
    · repeat' split at h2
      all_goals first | cases h2 | skip
      all_goals simp; omega
    · rw [if_neg h3] at h
      split at h
      all_goals cases h
  · next hn =>
    rw [hn] at h2
    simp only at h2
    unfold readHdist at h h2
    simp only [ext, List.length_append] at h2
    by_cases h3 : s.bits.length < 5
    · repeat' split at h2
      all_goals first | cases h2 | skip
      all_goals simp; omega
    · rw [if_neg h3] at h
      split at h
      all_goals cases h
  · next hn =>
    rw [hn] at h2
    simp only at h2
    unfold readHclen at h h2
    simp only [ext, List.length_append] at h2
    by_cases h3 : s.bits.length < 4
    · repeat' split at h2
      all_goals first | cases h2 | skip
      all_goals simp; omega
    · rw [if_neg h3] at h
      cases h
  · next hn =>
    rw [hn] at h2
    simp only at h2
    unfold readCodeLengths at h h2
    simp only [ext, List.length_append] at h2
    by_cases h0 : s.lens.length < s.hc
    · rw [if_pos h0] at h h2
      by_cases h3 : s.bits.length < 3
      · repeat' split at h2
        all_goals first | cases h2 | skip
        all_goals simp; omega
      · rw [if_neg h3] at h
        cases h
    · rw [if_neg h0] at h
      split at h
      all_goals cases h
  · next hn =>
    rw [hn] at h2
    simp only at h2
    unfold readLengths at h h2
    simp only [ext] at h2
    by_cases h0 : s.lens.length < s.hl + s.hd
    · rw [if_pos h0] at h h2
      unfold readLength at h h2
      simp only at h2
      obtain ⟨_, _, hs, hhs, hok, _⟩ := ho.l8 hn
      simp only [hhs, Option.getD_some] at h h2
      by_cases h4 : (sym hs (s.bits ++ z)).2.2 ≠ 0
      · rw [if_pos h4] at h2; cases h2
      · rw [if_neg h4] at h2
        have h40 : (sym hs (s.bits ++ z)).2.2 = 0 := by omega
        rcases sym_code hs s.bits with q | q | q
        · have q1 := sym_ext z hok q
          rw [q1] at h2
          rw [q, if_neg (by decide)] at h
          generalize (sym hs s.bits).1 = v at *
          generalize (sym hs s.bits).2.1 = n at *
          unfold readLen at h h2
          simp only [List.length_append] at h2
          by_cases h3 : v = 16 ∧ s.lens = []
          · rw [if_pos h3] at h; cases h
          · rw [if_neg h3] at h h2
            by_cases h5 : s.bits.length < n + extra v
            · repeat' split at h2
              all_goals first | cases h2 | skip
              all_goals simp; omega
            · rw [if_neg h5] at h
              split at h
              all_goals cases h
        · rw [q, if_pos (by decide)] at h
          unfold bad at h
          rw [if_neg (by decide)] at h
          cases h
        · have q1 := sym_short z hok q h40
          generalize (sym hs (s.bits ++ z)).1 = v at *
          generalize (sym hs (s.bits ++ z)).2.1 = n at *
          unfold readLen at h2
          simp only [List.length_append] at h2
          repeat' split at h2
          all_goals first | cases h2 | skip
          all_goals simp; omega
    · rw [if_neg h0] at h
      split at h
      all_goals cases h
  · next hn =>
    rw [hn] at h2
    simp only at h2
    unfold readLiteral at h h2
    simp only [ext] at h2
    obtain ⟨l, d, hl1, hd1, hokl, hokd⟩ := ho.lit (.inl hn)
    simp only [hl1, Option.getD_some] at h h2
    by_cases h4 : (sym l (s.bits ++ z)).2.2 ≠ 0
    · rw [if_pos h4] at h2; cases h2
    · rw [if_neg h4] at h2
      have h40 : (sym l (s.bits ++ z)).2.2 = 0 := by omega
      rcases sym_code l s.bits with q | q | q
      · have q1 := sym_ext z hokl q
        rw [q1] at h2
        rw [q, if_neg (by decide)] at h
        generalize (sym l s.bits).1 = v at *
        generalize (sym l s.bits).2.1 = n at *
        unfold readLit at h h2
        simp only [List.length_append] at h2
        by_cases h1 : v < 256
        · rw [if_pos h1] at h
          split at h
          all_goals cases h
        · rw [if_neg h1] at h h2
          by_cases h3 : v = 256
          · rw [if_pos h3] at h; cases h
          · rw [if_neg h3] at h h2
            split at h
            · cases h
            · next l x hb =>
              simp only [hb] at h2
              by_cases h5 : s.bits.length < n + x
              · repeat' split at h2
                all_goals first | cases h2 | skip
                all_goals simp; omega
              · rw [if_neg h5] at h; cases h
      · rw [q, if_pos (by decide)] at h
        unfold bad at h
        rw [if_neg (by decide)] at h
        cases h
      · have q1 := sym_short z hokl q h40
        obtain ⟨_, _, _, hb2, _, _⟩ := sym_ok h40
        rw [List.length_append] at hb2
        generalize (sym l (s.bits ++ z)).1 = v at *
        generalize (sym l (s.bits ++ z)).2.1 = n at *
        unfold readLit close put at h2
        simp only [List.length_append] at h2
        repeat' split at h2
        all_goals first | cases h2 | skip
        all_goals simp; omega
  · next hn =>
    rw [hn] at h2
    simp only at h2
    unfold readDistance at h h2
    simp only [ext] at h2
    obtain ⟨l, d, hl1, hd1, hokl, hokd⟩ := ho.lit (.inr hn)
    simp only [hd1, Option.getD_some] at h h2
    by_cases h0 : s.most < s.total + s.matching
    · rw [if_pos h0] at h; cases h
    · rw [if_neg h0] at h h2
      by_cases h4 : (sym d (s.bits ++ z)).2.2 ≠ 0
      · rw [if_pos h4] at h2; cases h2
      · rw [if_neg h4] at h2
        have h40 : (sym d (s.bits ++ z)).2.2 = 0 := by omega
        rcases sym_code d s.bits with q | q | q
        · have q1 := sym_ext z hokd q
          rw [q1] at h2
          rw [q, if_neg (by decide)] at h
          generalize (sym d s.bits).1 = v at *
          generalize (sym d s.bits).2.1 = n at *
          unfold readDist at h h2
          simp only [List.length_append] at h2
          split at h
          · cases h
          · next l x hb =>
            simp only [hb] at h2
            by_cases h5 : s.bits.length < n + x
            · unfold copied at h2
              repeat' split at h2
              all_goals first | cases h2 | skip
              all_goals simp; omega
            · rw [if_neg h5] at h
              unfold copied at h
              split at h
              all_goals cases h
        · rw [q, if_pos (by decide)] at h
          unfold bad at h
          rw [if_neg (by decide)] at h
          cases h
        · have q1 := sym_short z hokd q h40
          generalize (sym d (s.bits ++ z)).1 = v at *
          generalize (sym d (s.bits ++ z)).2.1 = n at *
          unfold readDist copied at h2
          simp only [List.length_append] at h2
          repeat' split at h2
          all_goals first | cases h2 | skip
          all_goals simp; omega
  · cases h

/-- Where more is wanted, and no more comes: it is refused. -/
abbrev shut (s : M) : M := { s with ended := true }
theorem bad_shut (s : M) (c : Nat) : bad (shut s) c = if c = 5 then 2 else c := rfl
theorem shut_step {s : M} (h : step s = .halt 5) : step (shut s) = .halt 2 := by
  unfold step at h ⊢
  have e : (shut s).next = s.next := rfl
  have hl : lack (shut s) = 2 := rfl
  rw [e]
  split at h
  · unfold opening at h ⊢
    rw [hl]
    simp only at h ⊢
    repeat' split at h
    all_goals first | cases h | skip
    all_goals simp_all
  · unfold readSize at h ⊢
    rw [hl]
    simp only at h ⊢
    repeat' split at h
    all_goals first | cases h | skip
    all_goals simp_all
  · unfold readBytes at h ⊢
    rw [hl]
    simp only at h ⊢
    repeat' split at h
    all_goals first | cases h | skip
    all_goals simp_all
  · unfold readHlit at h ⊢
    rw [hl]
    simp only at h ⊢
    repeat' split at h
    all_goals first | cases h | skip
    all_goals simp_all
  · unfold readHdist at h ⊢
    rw [hl]
    simp only at h ⊢
    repeat' split at h
    all_goals first | cases h | skip
    all_goals simp_all
  · unfold readHclen at h ⊢
    rw [hl]
    simp only at h ⊢
    repeat' split at h
    all_goals first | cases h | skip
    all_goals simp_all
  · unfold readCodeLengths at h ⊢
    rw [hl]
    simp only at h ⊢
    repeat' split at h
    all_goals first | cases h | skip
    all_goals simp_all
  · unfold readLengths at h ⊢
    have e1 : (shut s).lens = s.lens := rfl
    have e2 : (shut s).hl = s.hl := rfl
    have e3 : (shut s).hd = s.hd := rfl
    have e4 : (shut s).hcode = s.hcode := rfl
    have e5 : (shut s).bits = s.bits := rfl
    rw [e1, e2, e3]
    by_cases h0 : s.lens.length < s.hl + s.hd
    · rw [if_pos h0] at h ⊢
      unfold readLength at h ⊢
      rw [e4, e5]
      rcases sym_code (s.hcode.getD []) s.bits with q | q | q
      · rw [q, if_neg (by decide)] at h ⊢
        unfold readLen at h ⊢
        rw [hl, e1, e2, e3, e5]
        generalize (sym (s.hcode.getD []) s.bits).1 = v at *
        generalize (sym (s.hcode.getD []) s.bits).2.1 = n at *
        by_cases h3 : v = 16 ∧ s.lens = []
        · rw [if_pos h3] at h; cases h
        · rw [if_neg h3] at h ⊢
          by_cases h5 : s.bits.length < n + extra v
          · rw [if_pos h5]
          · rw [if_neg h5] at h
            split at h
            all_goals cases h
      · rw [q, if_pos (by decide)] at h
        unfold bad at h
        rw [if_neg (by decide)] at h
        cases h
      · rw [q, if_pos (by decide), bad_shut, if_pos rfl]
    · rw [if_neg h0] at h
      split at h
      all_goals cases h
  · unfold readLiteral at h ⊢
    have e4 : (shut s).lit = s.lit := rfl
    have e5 : (shut s).bits = s.bits := rfl
    have e6 : (shut s).most = s.most := rfl
    have e7 : (shut s).total = s.total := rfl
    have e8 : (shut s).wide = s.wide := rfl
    rw [e4, e5]
    rcases sym_code (s.lit.getD []) s.bits with q | q | q
    · rw [q, if_neg (by decide)] at h ⊢
      unfold readLit at h ⊢
      rw [hl, e5, e6, e7, e8]
      generalize (sym (s.lit.getD []) s.bits).1 = v at *
      generalize (sym (s.lit.getD []) s.bits).2.1 = n at *
      by_cases h1 : v < 256
      · rw [if_pos h1] at h
        split at h
        all_goals cases h
      · rw [if_neg h1] at h ⊢
        by_cases h3 : v = 256
        · rw [if_pos h3] at h; cases h
        · rw [if_neg h3] at h ⊢
          split at h
          · cases h
          · next l x hb =>
            by_cases h5 : s.bits.length < n + x
            · rw [if_pos h5]
            · rw [if_neg h5] at h; cases h
    · rw [q, if_pos (by decide)] at h
      unfold bad at h
      rw [if_neg (by decide)] at h
      cases h
    · rw [q, if_pos (by decide), bad_shut, if_pos rfl]
  · unfold readDistance at h ⊢
    have e4 : (shut s).dist = s.dist := rfl
    have e5 : (shut s).bits = s.bits := rfl
    have e6 : (shut s).most = s.most := rfl
    have e7 : (shut s).total = s.total := rfl
    have e8 : (shut s).wide = s.wide := rfl
    have e9 : (shut s).matching = s.matching := rfl
    rw [e4, e5, e6, e7, e9]
    by_cases h0 : s.most < s.total + s.matching
    · rw [if_pos h0] at h; cases h
    · rw [if_neg h0] at h ⊢
      rcases sym_code (s.dist.getD []) s.bits with q | q | q
      · rw [q, if_neg (by decide)] at h ⊢
        unfold readDist at h ⊢
        rw [hl, e5, e8]
        generalize (sym (s.dist.getD []) s.bits).1 = v at *
        generalize (sym (s.dist.getD []) s.bits).2.1 = n at *
        split at h
        · cases h
        · next l x hb =>
          by_cases h5 : s.bits.length < n + x
          · rw [if_pos h5]
          · rw [if_neg h5] at h
            unfold copied at h
            split at h
            all_goals cases h
      · rw [q, if_pos (by decide)] at h
        unfold bad at h
        rw [if_neg (by decide)] at h
        cases h
      · rw [q, if_pos (by decide), bad_shut, if_pos rfl]
  · cases h
theorem halt_codes {s : M} {c : Nat} (h : step s = .halt c) : c = 0 ∨ c = 2 ∨ c = 3 ∨ c = 5 := by
  have hl : lack s = 2 ∨ lack s = 5 := by unfold lack; split; exact .inl rfl; exact .inr rfl
  have hb : ∀ (ls : List Nat) (bs : List Bool), bad s (sym ls bs).2.2 = 0 ∨ bad s (sym ls bs).2.2 = 2 ∨ bad s (sym ls bs).2.2 = 5 := fun ls bs => by
    unfold bad
    split
    · rcases hl with q | q <;> rw [q] <;> decide
    · rcases sym_code ls bs with q | q | q <;> rw [q] <;> decide
  unfold step opening readSize readBytes readHlit readHdist readHclen readCodeLengths readLengths readLength readLen readLiteral readLit readDistance readDist copied at h
  repeat' split at h
  all_goals first
    | (cases h; done)
    | (injection h with h; rw [← h]; rcases hl with q | q <;> rw [q] <;> decide)
    | (injection h with h; rw [← h]; rcases hb _ _ with q | q | q <;> rw [q] <;> decide)
    | (injection h with h; rw [← h]; decide)
end InfMath
end

section
/-
  What was put out already does not matter.
-/
namespace InfMath
open BitMath CanMath TabMath WinMath

/-- The same, behind this output. -/
abbrev re (p : List UInt8) (s : M) : M := { s with out := p ++ s.out }
def reR (p : List UInt8) : Res → Res
  | .more s => .more (re p s)
  | .halt c => .halt c
theorem reR_ite (p : List UInt8) (c : Prop) [Decidable c] (a b : Res) : reR p (if c then a else b) = if c then reR p a else reR p b := by split <;> rfl
section
variable (p : List UInt8) (s : M)
theorem re_len (v n : Nat) : readLen (re p s) v n = reR p (readLen s v n) := by
  unfold readLen
  simp only [reR_ite]
  rfl
theorem re_lit (v n : Nat) : readLit (re p s) v n = reR p (readLit s v n) := by
  unfold readLit
  simp only [reR_ite]
  split
  · split
    · rfl
    · simp only [reR, put, re, List.append_assoc]
  · split
    · rfl
    · cases h : base v s.wide with
      | none => rfl
      | some q => simp only [reR_ite]; rfl
theorem re_dist (v n : Nat) : readDist (re p s) v n = reR p (readDist s v n) := by
  unfold readDist
  cases h : far v s.wide with
  | none => rfl
  | some q =>
    simp only [re, reR_ite, copied]
    split
    · rfl
    · split
      · rfl
      · simp only [reR, re, List.append_assoc]
theorem step_re : step (re p s) = reR p (step s) := by
  unfold step
  split
  · rename_i h
    rw [show s.next = 1 from h]
    unfold opening; simp only [reR_ite]; rfl
  · rename_i h
    rw [show s.next = 2 from h]
    unfold readSize; simp only [reR_ite]; rfl
  · rename_i h
    rw [show s.next = 3 from h]
    unfold readBytes; simp only [reR_ite]
    split
    · rfl
    · split
      · rfl
      · split
        · rfl
        · simp only [reR, put, re, List.append_assoc]
  · rename_i h
    rw [show s.next = 4 from h]
    unfold readHlit; simp only [reR_ite]; rfl
  · rename_i h
    rw [show s.next = 5 from h]
    unfold readHdist; simp only [reR_ite]; rfl
  · rename_i h
    rw [show s.next = 6 from h]
    unfold readHclen; simp only [reR_ite]; rfl
  · rename_i h
    rw [show s.next = 7 from h]
    unfold readCodeLengths; simp only [reR_ite]; rfl
  · rename_i h
    rw [show s.next = 8 from h]
    unfold readLengths readLength; simp only [reR_ite, re_len]; rfl
  · rename_i h
    rw [show s.next = 9 from h]
    unfold readLiteral; simp only [reR_ite, re_lit]; rfl
  · rename_i h
    rw [show s.next = 10 from h]
    unfold readDistance; simp only [reR_ite, re_dist]; rfl
  · rfl
theorem steps_re {s t : M} (h : Steps s t) : Steps (re p s) (re p t) := by
  induction h with
  | refl s => exact .refl _
  | cons h k ih => exact .cons (by rw [step_re, h]; rfl) ih
theorem ends_re {s t : M} {c : Nat} (h : Ends s t c) : Ends (re p s) (re p t) c := ⟨steps_re p h.1, by rw [step_re, h.2]; rfl⟩
/-- Without what was put out. -/
abbrev bare (s : M) : M := { s with out := [] }
theorem re_bare : re s.out (bare s) = s := by simp [re]
theorem bare_re (q : List UInt8) : bare (re q s) = bare s := rfl
theorem step_bare {s : M} {c : Nat} (h : step s = .halt c) : step (bare s) = .halt c := by
  have := step_re s.out (bare s)
  rw [re_bare, h] at this
  cases hq : step (bare s) with
  | more m => rw [hq] at this; cases this
  | halt d => rw [hq] at this; cases this; rfl
end
end InfMath
end

import Derived.Test.YtilfmmjjiiabgaaGreatDoorMgBn
import Derived.Test.YtilfmmjjiiabgaaGreatDoorMgBh
import Derived.Test.YtilfmmjjiiabgaaGreatDoorMgBk

section
/-
  told of law 12.
-/
namespace Go.Proofs.YtilfmmjjiiabgaaGreatDoor.InfC
open Go.RowKit Go.My BitMath CanMath TabMath WinMath FeedC TabC CanC
open WinC (Wn)
open InfMath (M Ok CodeOk mu lack fixL fixD bare shut)

theorem conv_own {X : World} {B n c : Nat} {a : Option Addr} {l : List UInt8} (h : Own 5 B X (.slice a n c) l) : (convert 25 9 (.slice a n c)).run Tryz.prog X = .ok (.string ⟨l.toArray⟩) X := by
  obtain ⟨a', c', h1, h2⟩ := h.bytes
  simp only [Value.slice.injEq] at h1
  obtain ⟨rfl, rfl, rfl⟩ := h1
  exact run_string_bytes X 25 9 5 Tryz.underlying25 Tryz.underlying5 Tryz.underlying9 h2
theorem row_bytes (E : TypeId) (w : World) (l : List UInt8) (hl : l.length ≤ 1000) : Bytes (w.alloc (.cells (l.map fun c => Value.int .u8 (c.toNat : Int)).toArray E)) (some ⟨w.heap.size, 0, none⟩) l.length l.length l := by
  refine ⟨rfl, Nat.le_refl _, by omega, (fun h => by cases h), .inr ⟨w.heap.size, 0, rfl, by simp, ?_⟩⟩
  intro i hi
  rw [cell_of_row _ _ _ _ _ _ (heap_alloc_new w _)]
  simp [hi]
theorem ends_run {n c : Nat} {s : M} (h : (InfMath.run n s).2 = some c) : InfMath.Ends s (InfMath.run n s).1 c := InfMath.run_ends n s _ c (by rw [← h])
theorem Ordr.mono {B B' : Nat} {w : World} (h : Ordr B w) (hB : B ≤ B') : Ordr B' w := ⟨Nat.lt_of_lt_of_le h.lt hB, h.cell⟩
theorem Ordr.up {w w' : World} (h : Ordr w.heap.size w) (hb : Below w.heap.size w w') : Ordr w'.heap.size w' := (h.below (Nat.le_refl _) hb).mono hb.size
end Go.Proofs.YtilfmmjjiiabgaaGreatDoor.InfC
end

section
/-
  inflate's machine, token by token, over the bits of bytes that are all there. No program, no dump.
-/
namespace InfMath
open BitMath CanMath TabMath WinMath

/-- The machine stands at bit p of l, these bytes came out. -/
structure Bd (l : List UInt8) (p : Nat) (out : List UInt8) (wide : Bool) (S most : Nat) (s : M) : Prop where
  eb : s.bits = (bitsOf l).drop p
  eh : s.hist = out
  eo : s.out = out
  et : s.total = out.length
  ew : s.wide = wide
  es : s.size = S
  em : s.most = most
  ep : s.pushed = l.length
/-- It comes to an end that is an error. -/
def Bad (s : M) : Prop := ∃ t c, Ends s t c ∧ c ≠ 0
theorem Bad.of {s t : M} (h : Steps s t) (k : Bad t) : Bad s := by
  obtain ⟨u, c, hu, hc⟩ := k
  exact ⟨u, c, .of h hu, hc⟩
structure St9 (l : List UInt8) (p : Nat) (out : List UInt8) (wide : Bool) (S most : Nat) (ls ds : List Nat) (fin : Bool) (s : M) : Prop where
  bd : Bd l p out wide S most s
  next : s.next = 9
  lit : s.lit = some ls
  dist : s.dist = some ds
  final : s.final = fin
structure St10 (l : List UInt8) (p : Nat) (out : List UInt8) (wide : Bool) (S most : Nat) (ls ds : List Nat) (fin : Bool) (m : Nat) (s : M) : Prop where
  bd : Bd l p out wide S most s
  next : s.next = 10
  lit : s.lit = some ls
  dist : s.dist = some ds
  final : s.final = fin
  mat : s.matching = m
/-- Behind a block. -/
structure St1 (l : List UInt8) (p : Nat) (out : List UInt8) (wide : Bool) (S most : Nat) (fin : Bool) (s : M) : Prop where
  bd : Bd l p out wide S most s
  next : s.next = if fin then 11 else 1
  final : s.final = fin

section
variable {l : List UInt8} {p : Nat} {out : List UInt8} {wide : Bool} {S most : Nat} {ls ds : List Nat} {fin : Bool} {s : M} {m : Nat}
theorem St9.step_ (h : St9 l p out wide S most ls ds fin s) : step s = readLiteral s := by unfold step; rw [h.next]; rfl
theorem St10.step_ (h : St10 l p out wide S most ls ds fin m s) : step s = readDistance s := by unfold step; rw [h.next]; rfl
variable {v n : Nat}
variable {b x : Nat}
end
end InfMath
end

section
/-
  inflate's machine, block by block (beginnings, stored blocks), over the bits of bytes that are all there. No program, no dump.
-/
namespace InfMath
open BitMath CanMath TabMath WinMath

/-- At a block's beginning, or behind its first bits: which step is next. -/
structure Stn (k : Nat) (l : List UInt8) (p : Nat) (out : List UInt8) (wide : Bool) (S most : Nat) (fin : Bool) (s : M) : Prop where
  bd : Bd l p out wide S most s
  next : s.next = k
  final : s.final = fin
structure St3 (l : List UInt8) (p : Nat) (out : List UInt8) (wide : Bool) (S most : Nat) (fin : Bool) (k : Nat) (s : M) : Prop where
  bd : Bd l p out wide S most s
  next : s.next = 3
  final : s.final = fin
  left : s.left = k
section
variable {l : List UInt8} {p : Nat} {out : List UInt8} {wide : Bool} {S most : Nat} {fin : Bool} {s : M} {k : Nat}
theorem Bd.len (h : Bd l p out wide S most s) : s.bits.length = 8 * l.length - p := by rw [h.eb, List.length_drop, bitsOf_len]
theorem Bd.at_ (h : Bd l p out wide S most s) (n : Nat) : s.bits.drop n = (bitsOf l).drop (p + n) := by rw [h.eb, List.drop_drop]
theorem St3.step_ (h : St3 l p out wide S most fin k s) : step s = readBytes s := by unfold step; rw [h.next]; rfl
end
end InfMath
end

import Derived.WalkKit
import Derived.Test.YtdbcendnibgcaaaDoorRows
import Derived.Test.YtdbcendnibgcaaaDoorMgAb
import Derived.Deep.DeepCutAuto
import Derived.Deep.CutBlock
import Derived.Below
import Derived.Deep.QuietTactic
import Derived.BigQuiet

section
/-
  Matches: how far two places are alike, the places that are asked, the one that is taken. Plain mathematics.
-/
namespace MatMath

def at_ (s : List UInt8) (i : Nat) : UInt8 := s.getD i 0
/-- The same three bytes stand at q and at a. -/
def tri (s : List UInt8) (q a : Nat) : Bool := at_ s q == at_ s a && at_ s (q + 1) == at_ s (a + 1) && at_ s (q + 2) == at_ s (a + 2)
theorem tri_iff {s : List UInt8} {q a : Nat} : tri s q a = true ↔ at_ s q = at_ s a ∧ at_ s (q + 1) = at_ s (a + 1) ∧ at_ s (q + 2) = at_ s (a + 2) := by
  simp [tri, and_assoc]
/-- How many bytes are alike from q and from a on, at most m. -/
def ml : List UInt8 → Nat → Nat → Nat → Nat
  | _, _, _, 0 => 0
  | s, q, a, m + 1 => if at_ s q = at_ s a then ml s (q + 1) (a + 1) m + 1 else 0
theorem ml_stop (s : List UInt8) (m : Nat) : ∀ q a, ml s q a m < m → at_ s (q + ml s q a m) ≠ at_ s (a + ml s q a m) := by
  induction m with
  | zero => intro q a h; omega
  | succ m ih =>
    intro q a h
    by_cases e : at_ s q = at_ s a
    · have hu : ml s q a (m + 1) = ml s (q + 1) (a + 1) m + 1 := by rw [ml, if_pos e]
      rw [hu] at h ⊢
      have := ih (q + 1) (a + 1) (by omega)
      rw [show q + (ml s (q + 1) (a + 1) m + 1) = q + 1 + ml s (q + 1) (a + 1) m from by omega, show a + (ml s (q + 1) (a + 1) m + 1) = a + 1 + ml s (q + 1) (a + 1) m from by omega]
      exact this
    · have hu : ml s q a (m + 1) = 0 := by rw [ml, if_neg e]
      rw [hu]; exact e
/-- As many as are alike. -/
theorem ml_ge {s : List UInt8} {q a m n : Nat} (h1 : n ≤ m) (h2 : ∀ i, i < n → at_ s (q + i) = at_ s (a + i)) : n ≤ ml s q a m := by
  by_cases h : ml s q a m < n
  · exact absurd (h2 _ h) (ml_stop s m q a (by omega))
  · omega
theorem ml_tri {s : List UInt8} {q a m : Nat} (h : tri s q a = true) (hm : 3 ≤ m) : 3 ≤ ml s q a m := by
  obtain ⟨h1, h2, h3⟩ := tri_iff.1 h
  refine ml_ge hm fun i hi => ?_
  match i, hi with
  | 0, _ => exact h1
  | 1, _ => exact h2
  | 2, _ => exact h3
/-! ### the search -/
/-- Good, at least 1. -/
def gd (good : Int) : Int := if good < 1 then 1 else good
/-- From place q down: so many were seen, the best one so far. -/
def scan (s : List UInt8) (far m : Nat) (chain good : Int) (a : Nat) : Nat → Nat → Nat → Nat → Nat × Nat
  | 0, _, b, d => (b, d)
  | q + 1, seen, b, d =>
    if a - q ≤ far ∧ (seen : Int) < chain then
      if tri s q a then
        if gd good ≤ (ml s q a m : Int) then (ml s q a m, a - q)
        else if b < ml s q a m then scan s far m chain good a q (seen + 1) (ml s q a m) (a - q)
        else scan s far m chain good a q (seen + 1) b d
      else scan s far m chain good a q seen b d
    else (b, d)
section
variable {s : List UInt8} {far m : Nat} {chain good : Int} {a : Nat}
/-! ### one step along the chain -/
end

/-! ### what is found -/
def far_ (wide : Bool) : Nat := if wide then 65536 else 32768
def long_ (wide : Bool) : Nat := if wide then 65538 else 258
/-- The length and the distance of a match. -/
def find (s : List UInt8) (chain good : Int) (wide : Bool) (a : Nat) : Nat × Nat :=
  if a + 3 ≤ s.length then scan s (far_ wide) (min (long_ wide) (s.length - a)) chain good a a 0 0 0 else (0, 0)
/-- What a search comes to: nothing new, or a place that was seen. -/
theorem scan_is {s : List UInt8} {far m : Nat} {chain good : Int} {a : Nat} : ∀ q seen b d, q ≤ a → scan s far m chain good a q seen b d = (b, d) ∨
    ∃ p, p < q ∧ tri s p a = true ∧ a - p ≤ far ∧ scan s far m chain good a q seen b d = (ml s p a m, a - p) := by
  intro q
  induction q with
  | zero => intro seen b d _; exact .inl rfl
  | succ q ih =>
    intro seen b d hq
    rw [scan]
    split
    · next h =>
      split
      · next ht =>
        split
        · exact .inr ⟨q, by omega, ht, h.1, rfl⟩
        · split
          · rcases ih (seen + 1) (ml s q a m) (a - q) (by omega) with e | ⟨p, h1, h2, h3, h4⟩
            · exact .inr ⟨q, by omega, ht, h.1, e⟩
            · exact .inr ⟨p, by omega, h2, h3, h4⟩
          · rcases ih (seen + 1) b d (by omega) with e | ⟨p, h1, h2, h3, h4⟩
            · exact .inl e
            · exact .inr ⟨p, by omega, h2, h3, h4⟩
      · rcases ih seen b d (by omega) with e | ⟨p, h1, h2, h3, h4⟩
        · exact .inl e
        · exact .inr ⟨p, by omega, h2, h3, h4⟩
    · exact .inl rfl
theorem long_ge (wide : Bool) : 258 ≤ long_ wide ∧ long_ wide ≤ 65538 := by cases wide <;> simp [long_]
theorem find_is (s : List UInt8) (chain good : Int) (wide : Bool) (a : Nat) : find s chain good wide a = (0, 0) ∨
    ∃ p, a + 3 ≤ s.length ∧ p < a ∧ tri s p a = true ∧ a - p ≤ far_ wide ∧ find s chain good wide a = (ml s p a (min (long_ wide) (s.length - a)), a - p) ∧ 3 ≤ ml s p a (min (long_ wide) (s.length - a)) := by
  unfold find
  split
  · next h3 =>
    rcases scan_is (s := s) (far := far_ wide) (m := min (long_ wide) (s.length - a)) (chain := chain) (good := good) a 0 0 0 (Nat.le_refl _) with e | ⟨p, h1, h2, h4, h5⟩
    · exact .inl e
    · have := long_ge wide
      exact .inr ⟨p, h3, h1, h2, h4, h5, ml_tri h2 (by omega)⟩
  · exact .inl rfl
end MatMath
end

section
/-
  bytes.Equal; how many bytes are alike at the beginning of two slices.
-/
namespace Go.Proofs.YtdbcendnibgcaaaDoor.MatC
open Go.RowKit Go.My MatMath

theorem quiet_below (w : World) (n : Nat) : Below w.heap.size w (w.drewN n) := ⟨rfl, rfl, rfl, Nat.le_refl _, fun _ _ => rfl⟩
theorem equal_any {a1 a2 : Option Addr} {n1 n2 c1 c2 : Nat} {l1 l2 : List UInt8} (w : World) (h1 : Bytes w a1 n1 c1 l1) (h2 : Bytes w a2 n2 c2 l2) (K : Bool) (hK : (l1 == l2) = K) :
    Calls Tryd.prog 11 #[.slice a1 n1 c1, .slice a2 n2 c2] w fun e w' => e = .returned (.bool K) ∧ w' = w := by
  have k1 := run_string_bytes (P := Tryd.prog) w 25 9 5 Tryd.underlying25 Tryd.underlying5 Tryd.underlying9 h1
  have k2 := run_string_bytes (P := Tryd.prog) w 25 9 5 Tryd.underlying25 Tryd.underlying5 Tryd.underlying9 h2
  clear h1 h2
  go_enter Tryd.func11, Tryd.ntmps11
  go_wp2_with fail
  go_ret
  exact ⟨rfl, rfl⟩

/-- How many bytes at the beginning of both are the same. -/
def pre : List UInt8 → List UInt8 → Nat
  | [], _ => 0
  | _ :: _, [] => 0
  | x :: xs, y :: ys => if x = y then pre xs ys + 1 else 0
theorem byte_at {w : World} {b off len cap : Nat} {l : List UInt8} (h : Bytes w (some ⟨b, off, none⟩) len cap l) (i : Nat) (hi : i < l.length) : w.cell? ⟨b, off + i, none⟩ = some (.int .u8 (l[i].toNat : Int)) := by
  rcases h.at_ with h5 | ⟨b', off', ha, hs, hc⟩
  · have := h.len_eq; omega
  · cases ha; exact hc i hi

/-- Only the draws have gone on. -/
def Drew (w w' : World) : Prop := ∃ m, w' = w.drewN m
theorem Drew.refl (w : World) : Drew w w := ⟨0, rfl⟩
theorem Drew.more {w w' : World} (h : Drew w w') (n : Nat) : Drew w (w'.drewN n) := by
  obtain ⟨m, rfl⟩ := h
  exact ⟨m + n, by rw [World.drewN_drewN]⟩
theorem Drew.below {w w' : World} (h : Drew w w') : Below w.heap.size w w' := by
  obtain ⟨m, rfl⟩ := h
  exact quiet_below w m
theorem Drew.bytes {w w' : World} {a : Option Addr} {len cap : Nat} {l : List UInt8} (h : Drew w w') (hb : Bytes w a len cap l) : Bytes w' a len cap l := hb.below (Nat.le_refl _) h.below

end Go.Proofs.YtdbcendnibgcaaaDoor.MatC
end

section
/-
  Regions that draw their order, whose own operations only read, and whose callees may make memory: one walk in the order of the text, in the class of the worlds that keep all that was there. No program, no dump.
-/
namespace Go.My
open Go.RowKit

/-- A world that has come of w, all that was there kept. -/
structure Later (w : World) where
  at' : World
  kept : Below w.heap.size w at'

instance {w : World} : Inhabited (Later w) := ⟨⟨w, Below.refl _ w⟩⟩

theorem wp_region_later {P : Program} {id : Nat} {Q : Exit → Act → World → Prop} {a : Act} {w : World} {l : List Oper} (hm : P.follows .mixedOrders = true) (hB : Region.lexB .any l.toArray = true)
    (h : wpQuiet P l.toArray (fun w' => ∃ p : Later w, w' = p.at') (fun a' => ∀ w', (∃ p : Later w, w' = p.at') → Q .normal a' w') l a) : (Code.region id l.toArray true).wp P Q a w :=
  wp_region_quiet (C := fun w' => ∃ p : Later w, w' = p.at') hm hB ⟨⟨_, (Below.refl _ w).drew⟩, rfl⟩ (by simpa using h)

theorem later_of {P : Program} {f : FuncId} {args : Array Value} {w : World} {p : Later w} {v : Value}
    (h : Calls P f args p.at' fun e w'' => e = .returned v ∧ Below p.at'.heap.size p.at' w'') : Calls P f args p.at' fun e w'' => e = .returned v ∧ ∃ q : Later w, w'' = q.at' :=
  h.mono fun _ _ ⟨he, hb⟩ => ⟨he, ⟨_, p.kept.trans (hb.mono p.kept.size)⟩, rfl⟩
end Go.My
end

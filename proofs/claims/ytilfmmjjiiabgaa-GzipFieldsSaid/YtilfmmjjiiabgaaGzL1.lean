/-
  GzipHeads' law.
-/
import Derived.Test.YtilfmmjjiiabgaaGzT
import Derived.Deep.DeepCutAuto
import Derived.Deep.CutBlock
namespace Go.Proofs.Ytilfmmjjiiabgaa.GzC
open Go.RowKit Go.My GzMath Flt
open Go.My.NumMath (bytesOf)

/-- What Put makes, and how it is told. -/
noncomputable def putL (named : Bool) (name : List UInt8) (t : Nat) : List UInt8 := if badH named name then [] else putH named name (uT t)
def putC (named : Bool) (name : List UInt8) : Nat := if badH named name then 1 else 0
theorem put_both (named : Bool) (name : List UInt8) (t : Nat) (w : World) :
    Calls Try.prog 9 #[.agg #[.bool named, .string ⟨name.toArray⟩, .float .f64 t]] w fun e w' => ∃ a n c, e = .returned (.tuple #[.slice a n c, .int .i64 ((putC named name : Nat) : Int)]) ∧ Hid (Bytes w' a n c (putL named name t)) ∧ Hid (Below w.heap.size w w') := by
  cases hb : badH named name
  · refine (put_all named name t w hb).mono ?_
    rintro e w' ⟨v, rfl, ho, hbl⟩
    obtain ⟨a, c, rfl, hby⟩ := ho.bytes
    unfold putC putL
    simp only [hb, Bool.false_eq_true, if_false]
    exact ⟨_, _, _, rfl, Lib.hid hby, Lib.hid hbl⟩
  · refine (put_bad named name t w hb).mono ?_
    rintro e w' ⟨rfl, hbl⟩
    unfold putC putL
    simp only [hb, if_true]
    exact ⟨_, _, _, rfl, Lib.hid (nil_bytes _), Lib.hid hbl⟩
theorem rput_both (named : Bool) (name : List UInt8) (t : Nat) (w : World) (hl : name.length ≤ 1099511627776) :
    Calls Try.prog 10 #[.agg #[.bool named, .string ⟨name.toArray⟩, .float .f64 t]] w fun e w' => e = .returned (.tuple #[.string ⟨(putL named name t).toArray⟩, .int .i64 ((putC named name : Nat) : Int)]) ∧ Hid (Below w.heap.size w w') := by
  refine (rput_any named name t w hl).mono ?_
  rintro e w' ⟨rfl, hbl⟩
  refine ⟨?_, Lib.hid hbl⟩
  unfold putC putL
  cases badH named name <;> rfl
/-- What Wrap makes, and how it is told. -/
noncomputable def wrapL (named : Bool) (name : List UInt8) (t : Nat) (packed : List UInt8) (sum : Nat) (size : Int) : List UInt8 := if badH named name then [] else if size < 0 then [] else wrapB named name t packed sum size.toNat
def wrapC (named : Bool) (name : List UInt8) (size : Int) : Nat := if badH named name then 1 else if size < 0 then 7 else 0
theorem wrap_both (named : Bool) (name : List UInt8) (t : Nat) (a : Option Addr) (n c : Nat) (packed : List UInt8) (sum : Nat) (size : Int) (w : World) (hp : Bytes w a n c packed) (hn : n ≤ 1000000000) (h1 : sum < 4294967296) (h2 : size < 9223372036854775808) :
    Calls Try.prog 11 #[.agg #[.bool named, .string ⟨name.toArray⟩, .float .f64 t], .slice a n c, .int .u32 (sum : Int), .int .i64 size] w fun e w' => ∃ a' n' c', e = .returned (.tuple #[.slice a' n' c', .int .i64 ((wrapC named name size : Nat) : Int)]) ∧ Hid (Bytes w' a' n' c' (wrapL named name t packed sum size)) ∧ Hid (Below w.heap.size w w') := by
  cases hb : badH named name
  · by_cases hs : size < 0
    · refine (wrap_neg named name t _ _ size w hb hs).mono ?_
      rintro e w' ⟨rfl, hbl⟩
      unfold wrapC wrapL
      simp only [hb, Bool.false_eq_true, if_false, if_pos hs]
      exact ⟨_, _, _, rfl, Lib.hid (nil_bytes _), Lib.hid hbl⟩
    · obtain ⟨m, rfl⟩ : ∃ m : Nat, size = (m : Int) := ⟨size.toNat, by omega⟩
      refine (wrap_ok named name t a n c packed sum m w hb hp hn h1 (by omega)).mono ?_
      rintro e w' ⟨v, rfl, ho, hbl⟩
      obtain ⟨a', c', rfl, hby⟩ := ho.bytes
      unfold wrapC wrapL
      simp only [hb, Bool.false_eq_true, if_false, if_neg hs, Int.toNat_natCast]
      exact ⟨_, _, _, rfl, Lib.hid hby, Lib.hid hbl⟩
  · refine (wrap_bad named name t _ _ size w hb).mono ?_
    rintro e w' ⟨rfl, hbl⟩
    unfold wrapC wrapL
    simp only [hb, if_true]
    exact ⟨_, _, _, rfl, Lib.hid (nil_bytes _), Lib.hid hbl⟩
theorem rwrap_both (named : Bool) (name : List UInt8) (t : Nat) (a : Option Addr) (n c : Nat) (packed : List UInt8) (sum : Nat) (size : Int) (w : World) (hp : Bytes w a n c packed) (hn : n ≤ 1000000000) (h1 : sum < 4294967296) (h2 : size < 9223372036854775808) (hl : name.length ≤ 1099511627776) :
    Calls Try.prog 12 #[.agg #[.bool named, .string ⟨name.toArray⟩, .float .f64 t], .slice a n c, .int .u32 (sum : Int), .int .i64 size] w fun e w' => e = .returned (.tuple #[.string ⟨(wrapL named name t packed sum size).toArray⟩, .int .i64 ((wrapC named name size : Nat) : Int)]) ∧ Hid (Below w.heap.size w w') := by
  cases hb : badH named name
  · by_cases hs : size < 0
    · refine (rwrap_neg named name t _ _ size w hb hl hs).mono ?_
      rintro e w' ⟨rfl, hbl⟩
      unfold wrapC wrapL
      simp only [hb, Bool.false_eq_true, if_false, if_pos hs]
      exact ⟨rfl, Lib.hid hbl⟩
    · obtain ⟨m, rfl⟩ : ∃ m : Nat, size = (m : Int) := ⟨size.toNat, by omega⟩
      refine (rwrap_ok named name t a n c packed sum m w hb hp hn h1 (by omega)).mono ?_
      rintro e w' ⟨rfl, hbl⟩
      unfold wrapC wrapL
      simp only [hb, Bool.false_eq_true, if_false, if_neg hs, Int.toNat_natCast]
      exact ⟨rfl, Lib.hid hbl⟩
  · refine (rwrap_bad named name t _ _ size w hb hl).mono ?_
    rintro e w' ⟨rfl, hbl⟩
    unfold wrapC wrapL
    simp only [hb, if_true]
    exact ⟨rfl, Lib.hid hbl⟩
/-- What is read of a header, part by part. -/
structure Parts (l : List UInt8) (nm : Bool) (ns : List UInt8) (x n c : Nat) : Prop where
  got : readV (rd l) = .tuple #[.agg #[.bool nm, .string ⟨ns.toArray⟩, .float .f64 x], .int .i64 (n : Int), .int .i64 (c : Int)]
  bad : c ≠ 0 → nm = false ∧ ns = []
  isB : ∀ k, rd l = .bad k → nm = false ∧ ns = [] ∧ x = 0 ∧ n = 0 ∧ c = k
  isO : ∀ h, rd l = .ok h → nm = h.named ∧ ns = h.name ∧ x = ClkC.fromU (h.time : Int) ∧ n = h.n ∧ c = 0
theorem parts (l : List UInt8) : ∃ nm ns x n c, Parts l nm ns x n c := by
  cases hr : rd l with
  | bad k => exact ⟨false, [], 0, 0, k, (by rw [hr]; rfl), (fun _ => ⟨rfl, rfl⟩), (fun k2 e => by rw [hr] at e; cases e; exact ⟨rfl, rfl, rfl, rfl, rfl⟩), (fun h e => by rw [hr] at e; cases e)⟩
  | ok h => exact ⟨h.named, h.name, ClkC.fromU (h.time : Int), h.n, 0, (by rw [hr]; rfl), (fun e => absurd rfl e), (fun k e => by rw [hr] at e; cases e), (fun h2 e => by rw [hr] at e; cases e; exact ⟨rfl, rfl, rfl, rfl, rfl⟩)⟩
theorem rread_both (a : Option Addr) (len cap : Nat) (l : List UInt8) (w : World) (hb : Bytes w a len cap l) (hl : len ≤ 1099511627776) {nm : Bool} {ns : List UInt8} {x n c : Nat} (hp : Parts l nm ns x n c) :
    Calls Try.prog 7 #[.slice a len cap] w fun e w' => ∃ r, Hid (ClkC.Like x r) ∧ e = .returned (.tuple #[.agg #[.bool nm, .string ⟨ns.toArray⟩, .float .f64 r], .int .i64 (n : Int), .int .i64 (c : Int)]) ∧ Hid (Below w.heap.size w w') := by
  refine (rread_at w.heap.size a len cap l w rfl hb hl).mono ?_
  rintro e w' ⟨hbl, ⟨k, hr, hc, rfl⟩ | ⟨h, r, hr, hlk, rfl⟩⟩
  · obtain ⟨rfl, rfl, rfl, rfl, rfl⟩ := hp.isB k hr
    exact ⟨0, Lib.hid (.inl rfl), rfl, Lib.hid hbl⟩
  · obtain ⟨rfl, rfl, rfl, rfl, rfl⟩ := hp.isO h hr
    exact ⟨r, Lib.hid hlk, rfl, Lib.hid hbl⟩
end Go.Proofs.Ytilfmmjjiiabgaa.GzC

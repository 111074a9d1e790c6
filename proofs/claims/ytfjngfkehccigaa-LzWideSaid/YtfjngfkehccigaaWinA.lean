/-
  A window behind a pointer: New, after, Have, Total, Put.
-/
import Derived.Test.YtfjngfkehccigaaRows
import Derived.Test.YtfjngfkehccigaaOwnB
import Derived.Test.YtfjngfkehccigaaWinMath
import Derived.Laws.Pointers
import Derived.StillTailTactics
import Derived.Deep.RegionLaw
namespace Go.Proofs.Ytfjngfkehccigaa.WinC
open Go.RowKit Go.My WinMath

theorem info5 : (Try.prog.info? 5).map (fun i => (i.zero, i.size, i.bytes)) = some (some (.int .u8 0), 1, 1) := by kernel_rfl

/-- A Window's block: its size S, its ring l (the slice v), the next place, how many there were. -/
structure WnAt (B : Nat) (w : World) (g S : Nat) (v : Value) (l : List UInt8) (next total : Nat) : Prop where
  blk : Blk w g 53 #[.int .i64 (S : Int), v, .int .i64 (next : Int), .int .i64 (total : Int)]
  own : Own 5 B w v l
  base : B ≤ g
/-- A window of S bytes behind all these bytes; its ring lies in block r. -/
def Wn (B : Nat) (w : World) (g S : Nat) (r : Option Nat) (all : List UInt8) : Prop :=
  ∃ v l next, WnAt B w g S v l next all.length ∧ v.ownBlock = r ∧ Ring S all l next ∧ 0 < S ∧ S ≤ 65536

section
variable {B g S : Nat} {w w' : World} {v : Value} {l all : List UInt8} {next total : Nat} {r : Option Nat} {T : Nat → Prop}
theorem WnAt.far (h : WnAt B w g S v l next total) : v.ownBlock ≠ some g := own_len_ne h.own h.blk (by decide)
theorem WnAt.only (h : WnAt B w g S v l next total) (hk : Only T w w') (hg : ¬ T g) (hr : ∀ k, v.ownBlock = some k → ¬ T k) : WnAt B w' g S v l next total :=
  ⟨hk.blk h.blk hg, hk.own h.own hr, h.base⟩
theorem Wn.only (h : Wn B w g S r all) (hk : Only T w w') (hg : ¬ T g) (hr : ∀ k, r = some k → ¬ T k) : Wn B w' g S r all := by
  obtain ⟨v, l, next, h1, rfl, h2⟩ := h
  exact ⟨v, l, next, h1.only hk hg hr, rfl, h2⟩
theorem Wn.below (h : Wn B w g S r all) (hk : Below w.heap.size w w') : Wn B w' g S r all := h.only (Only.of_below hk (fun _ => False)) (fun h => h) (fun _ _ h => h)
theorem Wn.lt (h : Wn B w g S r all) : g < w.heap.size := by
  obtain ⟨v, l, next, h1, _⟩ := h
  exact h1.blk.lt
theorem Wn.rlt (h : Wn B w g S r all) : ∀ k, r = some k → B ≤ k ∧ k < w.heap.size := by
  obtain ⟨v, l, next, h1, rfl, _⟩ := h
  exact fun k hk => World.ownsRow.lt h1.own k hk
theorem Wn.base (h : Wn B w g S r all) : B ≤ g := by
  obtain ⟨v, l, next, h1, _⟩ := h
  exact h1.base
theorem Wn.fp (h : Wn B w g S r all) : ∀ k, Fp g r k → B ≤ k := by
  rintro k (rfl | hk)
  · exact h.base
  · exact (h.rlt k hk).1
theorem Wn.flt (h : Wn B w g S r all) : ∀ k, Fp g r k → k < w.heap.size := by
  rintro k (rfl | hk)
  · exact h.lt
  · exact (h.rlt k hk).2
end

theorem wn_new (w : World) (S : Nat) (h1 : 0 < S) (h2 : S ≤ 65536) : Wn w.heap.size (w.alloc (.cells #[.int .i64 (S : Int), .slice none 0 0, .int .i64 0, .int .i64 0] 53)) w.heap.size S none [] :=
  ⟨.slice none 0 0, [], 0, ⟨Blk.new w _ _, Own.nil _ _ _, Nat.le_refl _⟩, rfl, Ring.nil S, h1, h2⟩

theorem new_bad (n : Int) (w : World) (h : n < 1 ∨ 65536 < n) : Calls Try.prog 20 #[.int .i64 n] w fun e w' => e = .returned (.tuple #[.pointer none, .int .i64 7]) ∧ w = w' := by
  by_cases h1 : n < 1
  · go_enter Try.func20, Try.ntmps20
    go_wp2_with fail
    go_ret2
    exact ⟨rfl, rfl⟩
  · have h2 : 65536 < n := by omega
    go_enter Try.func20, Try.ntmps20
    go_wp2_with fail
    go_ret2
    exact ⟨rfl, rfl⟩
theorem new_ok (S : Nat) (w : World) (h1 : 0 < S) (h2 : S ≤ 65536) : Calls Try.prog 20 #[.int .i64 (S : Int)] w fun e w' =>
    e = .returned (.tuple #[.pointer (some ⟨w.heap.size, 0, none⟩), .int .i64 0]) ∧ Wn w.heap.size w' w.heap.size S none [] ∧ Below w.heap.size w w' := by
  have hn := wn_new w S h1 h2
  have H := Lib.hid (And.intro hn ((Below.refl w.heap.size w).alloc (Nat.le_refl _) (.cells #[.int .i64 (S : Int), .slice none 0 0, .int .i64 0, .int .i64 0] 53)))
  clear hn
  have h3 : ¬ (S : Int) < 1 := by omega
  have h4 : ¬ 65536 < (S : Int) := by omega
  go_enter Try.func20, Try.ntmps20
  go_wp2_with fail
  go_ret2
  exact ⟨rfl, H.out.1, H.out.2⟩

theorem after_any (B g S n : Nat) (v : Value) (l : List UInt8) (next total : Nat) (w : World) (h : WnAt B w g S v l next total) (hS : S ≤ 65536) (hn : n < S) :
    Calls Try.prog 23 #[.pointer (some ⟨g, 0, none⟩), .int .i64 (n : Int)] w fun e w' => e = .returned (.int .i64 ((after S n : Nat) : Int)) ∧ w = w' := by
  have hc := h.blk.cell 0
  simp only [List.getElem?_toArray, List.getElem?_cons_zero] at hc
  clear h
  by_cases he : n + 1 = S
  · have HC : Hid (after S n = 0) := Lib.hid (by unfold after; rw [if_pos he])
    have h1 : (n : Int) + 1 = (S : Int) := by omega
    go_enter Try.func23, Try.ntmps23
    go_wp2_with fail
    go_ret
    exact ⟨by rw [HC.out]; rfl, rfl⟩
  · have HC : Hid (after S n = n + 1) := Lib.hid (by unfold after; rw [if_neg he])
    have h1 : ¬ (n : Int) + 1 = (S : Int) := by omega
    go_enter Try.func23, Try.ntmps23
    go_wp2_with fail
    go_ret
    exact ⟨by rw [HC.out]; rfl, rfl⟩

theorem have_any (B g S : Nat) (r : Option Nat) (all : List UInt8) (w : World) (h : Wn B w g S r all) :
    Calls Try.prog 24 #[.pointer (some ⟨g, 0, none⟩)] w fun e w' => e = .returned (.int .i64 ((min all.length S : Nat) : Int)) ∧ w = w' := by
  obtain ⟨v, l, next, h1, h2, h3, h4⟩ := h
  have hc := h1.blk.cell 1
  simp only [List.getElem?_toArray, List.getElem?_cons_zero, List.getElem?_cons_succ] at hc
  obtain ⟨a0, c0, rfl, -⟩ := h1.own.bytes
  have HL := Lib.hid h3.len
  clear h1 h2 h3 h4
  go_enter Try.func24, Try.ntmps24
  go_wp2_with fail
  go_ret
  exact ⟨by rw [HL.out]; rfl, rfl⟩
end Go.Proofs.Ytfjngfkehccigaa.WinC

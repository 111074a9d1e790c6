/-
  told of law 11.
-/
import Derived.Test.YtfjngfkehccigaaLzE
namespace Go.Proofs.Ytfjngfkehccigaa.LzC
open Go.RowKit Go.My LzMath WinMath WinC

theorem conv_any {X : World} {B n c : Nat} {a : Option Addr} {l : List UInt8} (h : Own 5 B X (.slice a n c) l) : (convert 29 9 (.slice a n c)).run Try.prog X = .ok (.string ⟨l.toArray⟩) X := by
  obtain ⟨a', c', h1, h2⟩ := h.bytes
  simp only [Value.slice.injEq] at h1
  obtain ⟨rfl, rfl, rfl⟩ := h1
  exact run_string_bytes X 29 9 5 Try.underlying29 Try.underlying5 Try.underlying9 h2

/-- Tokens of a literal. -/
theorem toks_lit (w : World) (C : Array Value) (n : Nat) (hn : n ≤ 1000) (f : Nat → Tok) (hf : ∀ i, i < n → C[i * 3]? = some (.int .i64 (f i).len) ∧ C[i * 3 + 1]? = some (.int .i64 (f i).dist) ∧ C[i * 3 + 2]? = some (.int .u8 ((f i).byte.toNat : Int)) ∧ Wf (f i)) :
    TokIn (w.alloc (.cells C 26)) (some ⟨w.heap.size, 0, none⟩) n n f := by
  have hb := Blk.new w 26 C
  refine ⟨Nat.le_refl _, by omega, (fun h => by cases h), .inr ⟨_, _, rfl, fun i hi => ?_⟩⟩
  obtain ⟨h1, h2, h3, h4⟩ := hf i hi
  exact ⟨by rw [hb.cell, Nat.zero_add]; exact h1, by rw [hb.cell, Nat.zero_add]; exact h2, by rw [hb.cell, Nat.zero_add]; exact h3, by simp, h4⟩
def f3 : Nat → Tok := fun i => if i = 0 then ⟨0, 0, 97⟩ else if i = 1 then ⟨0, 0, 98⟩ else ⟨5, 2, 0⟩
def f2 : Nat → Tok := fun i => if i = 0 then ⟨0, 0, 97⟩ else ⟨3, 2, 0⟩
def f1 : Nat → Tok := fun i => if i = 0 then ⟨0, 0, 0⟩ else ⟨7, 1, 0⟩
instance (t : Tok) : Decidable (Wf t) := inferInstanceAs (Decidable (_ ∧ _))
instance (wide : Bool) (f : Nat → Tok) (k : Nat) : Decidable (Ok wide f k) := inferInstanceAs (Decidable (_ ∧ _))
theorem told_1 : EndsT false f3 3 3 ∧ ex f3 3 = [97, 98, 97, 98, 97, 98, 97] ∧ tot f3 3 = 7 := by
  refine ⟨⟨Nat.le_refl _, fun i hi => ?_, fun h => by omega⟩, by decide +kernel, by decide +kernel⟩
  have : i = 0 ∨ i = 1 ∨ i = 2 := by omega
  rcases this with rfl | rfl | rfl <;> decide +kernel
theorem told_2 : EndsT false f2 2 1 ∧ tot f2 2 = 4 := by
  refine ⟨⟨by omega, fun i hi => ?_, fun h => by decide +kernel⟩, by decide +kernel⟩
  obtain rfl : i = 0 := by omega
  decide +kernel
theorem told_3 : cap f1 2 = 8 := by decide +kernel

theorem expand_ok (wide : Bool) (a : Option Addr) (len c : Nat) (f : Nat → Tok) (w : World) (h : TokIn w a len c f) (hE : EndsT wide f len len) (ht : tot f len ≤ 1000000) :
    Calls Try.prog 12 #[.slice a len c, .bool wide] w fun e w' => ∃ a' c', e = .returned (.tuple #[.slice a' (tot f len) c', .int .i64 0, .int .i64 0]) ∧ Hid (Own 5 w.heap.size w' (.slice a' (tot f len) c') (ex f len)) ∧ Hid (Below w.heap.size w w') :=
  (expand_all wide a len c f len w h hE ht).mono fun e w' ⟨hb, hx⟩ => by
    rcases hx with ⟨-, a', c', he, ho⟩ | ⟨h1, -⟩
    · exact ⟨a', c', he, Lib.hid ho, Lib.hid hb⟩
    · omega
theorem expand_no (wide : Bool) (a : Option Addr) (len c : Nat) (f : Nat → Tok) (K : Nat) (w : World) (h : TokIn w a len c f) (hE : EndsT wide f len K) (hK : K < len) (ht : tot f len ≤ 1000000) :
    Calls Try.prog 12 #[.slice a len c, .bool wide] w fun e w' => e = .returned (.tuple #[.slice none 0 0, .int .i64 (K : Int), .int .i64 2]) ∧ Hid (Below w.heap.size w w') :=
  (expand_all wide a len c f K w h hE ht).mono fun e w' ⟨hb, hx⟩ => by
    rcases hx with ⟨h1, -⟩ | ⟨-, he⟩
    · omega
    · exact ⟨he, Lib.hid hb⟩

set_option maxRecDepth 100000 in
set_option maxHeartbeats 8000000 in
theorem told_any (w : World) : Calls Try.prog 6 #[] w fun e w' => e = .returned (.bool true) ∧ Below w.heap.size w w' := by
  go_enter Try.func6, Try.ntmps6
  go_wp2_with fail
  have H1 : Hid (TokIn (w.alloc (.cells #[.int .i64 0, .int .i64 0, .int .u8 97, .int .i64 0, .int .i64 0, .int .u8 98, .int .i64 5, .int .i64 2, .int .u8 0] 26)) (some ⟨w.heap.size, 0, none⟩) 3 3 f3) := Lib.hid (toks_lit w _ 3 (by omega) f3 (by
    intro i hi
    have : i = 0 ∨ i = 1 ∨ i = 2 := by omega
    rcases this with rfl | rfl | rfl <;> exact ⟨rfl, rfl, rfl, by decide⟩))
  have HB0 : Hid (Below w.heap.size w (w.alloc (.cells #[.int .i64 0, .int .i64 0, .int .u8 97, .int .i64 0, .int .i64 0, .int .u8 98, .int .i64 5, .int .i64 2, .int .u8 0] 26))) := Lib.hid ((Below.refl _ _).alloc (Nat.le_refl _) _)
  generalize w.alloc (.cells #[.int .i64 0, .int .i64 0, .int .u8 97, .int .i64 0, .int .i64 0, .int .u8 98, .int .i64 5, .int .i64 2, .int .u8 0] 26) = w0 at *
  refine (expand_ok false _ 3 3 f3 w0 H1.out told_1.1 (by rw [told_1.2.2]; omega)).mono ?_
  rw [told_1.2.1, told_1.2.2]
  rintro e w1 ⟨a1, c1, rfl, HO1, hb1⟩
  have HB1 := Lib.hid (HB0.out.trans (hb1.out.mono HB0.out.size))
  clear H1 HB0 hb1
  go_wp2_with fail
  have H2 : Hid (TokIn (w1.alloc (.cells #[.int .i64 0, .int .i64 0, .int .u8 97, .int .i64 3, .int .i64 2, .int .u8 0] 26)) (some ⟨w1.heap.size, 0, none⟩) 2 2 f2) := Lib.hid (toks_lit w1 _ 2 (by omega) f2 (by
    intro i hi
    have : i = 0 ∨ i = 1 := by omega
    rcases this with rfl | rfl <;> exact ⟨rfl, rfl, rfl, by decide⟩))
  have hb2 : Below w1.heap.size w1 (w1.alloc (.cells #[.int .i64 0, .int .i64 0, .int .u8 97, .int .i64 3, .int .i64 2, .int .u8 0] 26)) := (Below.refl _ _).alloc (Nat.le_refl _) _
  generalize w1.alloc (.cells #[.int .i64 0, .int .i64 0, .int .u8 97, .int .i64 3, .int .i64 2, .int .u8 0] 26) = w2 at *
  have HO2 := Lib.hid (HO1.out.below (Nat.le_refl _) hb2)
  have HB2 := Lib.hid (HB1.out.trans (hb2.mono HB1.out.size))
  clear HO1 HB1 hb2
  refine (expand_no false _ 2 2 f2 1 w2 H2.out told_2.1 (by omega) (by rw [told_2.2]; omega)).mono ?_
  rintro e w3 ⟨rfl, hb3⟩
  have HO3 := Lib.hid (HO2.out.below (Nat.le_refl _) hb3.out)
  have HB3 := Lib.hid (HB2.out.trans (hb3.out.mono HB2.out.size))
  have hcv := conv_any HO3.out
  clear HO2 HB2 hb3 H2
  go_wp2_with fail
  have H4 : Hid (TokIn (w3.alloc (.cells #[.int .i64 0, .int .i64 0, .int .u8 0, .int .i64 7, .int .i64 1, .int .u8 0] 26)) (some ⟨w3.heap.size, 0, none⟩) 2 2 f1) := Lib.hid (toks_lit w3 _ 2 (by omega) f1 (by
    intro i hi
    have : i = 0 ∨ i = 1 := by omega
    rcases this with rfl | rfl <;> exact ⟨rfl, rfl, rfl, by decide⟩))
  have HB4 := Lib.hid (HB3.out.alloc HB3.out.size (.cells #[.int .i64 0, .int .i64 0, .int .u8 0, .int .i64 7, .int .i64 1, .int .u8 0] 26))
  generalize w3.alloc (.cells #[.int .i64 0, .int .i64 0, .int .u8 0, .int .i64 7, .int .i64 1, .int .u8 0] 26) = w4 at *
  refine (size_all _ 2 2 f1 w4 H4.out).mono ?_
  rw [told_3]
  rintro e w5 ⟨rfl, hb5⟩
  have HB5 := Lib.hid (HB4.out.trans (hb5.mono HB4.out.size))
  clear hb5 HB4 H4 HO3 HB3 hcv
  go_wp2_with fail
  go_ret
  exact ⟨rfl, HB5.out⟩
end Go.Proofs.Ytfjngfkehccigaa.LzC

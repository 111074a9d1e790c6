import Derived.Test.YtdbcendnibgcaaaDoorMgAg
import Derived.Test.YtdbcendnibgcaaaDoorMgAc
import Derived.Laws.StructEq
import Derived.Test.YtdbcendnibgcaaaDoorMgAf
import Derived.Test.YtdbcendnibgcaaaDoorRows

section
namespace Go.Proofs.YtdbcendnibgcaaaDoor.ClkC
open Go.RowKit Go.My Clk

end Go.Proofs.YtdbcendnibgcaaaDoor.ClkC
end

section
namespace Go.Proofs.YtdbcendnibgcaaaDoor.ClkC
open Go.RowKit Go.My Flt Clk

theorem i64_or_nat (a b : Nat) (ha : a < 2 ^ 63) (hb : b < 2 ^ 63) : bits .or .i64 (a : Int) (b : Int) = ((a ||| b : Nat) : Int) := by
  have h := Nat.or_lt_two_pow ha hb
  show IntKind.i64.wrap ((BitVec.ofInt 64 (a : Int) ||| BitVec.ofInt 64 (b : Int)).toNat : Int) = _
  rw [BitVec.toNat_or, BitVec.toNat_ofInt, BitVec.toNat_ofInt]
  rw [show ((a : Int) % ((2 ^ 64 : Nat) : Int)).toNat = a from by omega, show ((b : Int) % ((2 ^ 64 : Nat) : Int)).toNat = b from by omega]
  rw [IntKind.wrap_i64]
  omega
end Go.Proofs.YtdbcendnibgcaaaDoor.ClkC
end

section
namespace Go.Proofs.YtdbcendnibgcaaaDoor.ClkC
open Go.RowKit Go.My Flt

theorem nan_cut (t : Nat) : isNaN ((t % 2) * 2 ^ 63 + 0x7ff0000000000000 + 1 + (t / 2) % (2 ^ 52 - 1)) = true := by
  have h1 : t % 2 < 2 := Nat.mod_lt _ (by omega)
  have h2 : (t / 2) % (2 ^ 52 - 1) < 2 ^ 52 - 1 := Nat.mod_lt _ (by omega)
  generalize t % 2 = s at *
  generalize (t / 2) % (2 ^ 52 - 1) = k at *
  have e : s * 2 ^ 63 + 0x7ff0000000000000 + 1 + k = D.word (s == 1) (9218868437227405313 + k) := by
    unfold Ieee.Format.word
    rw [sign_eq]
    have : s = 0 ∨ s = 1 := by omega
    rcases this with rfl | rfl
    · simp <;> omega
    · simp <;> omega
  unfold isNaN
  rw [e, read_word _ _ (by omega), if_neg (by omega), if_neg (by omega), if_neg (by omega)]
  rfl
theorem r_nan (w : World) : ∃ r, (binOp .quo 32 (.float .f64 0) (.float .f64 0)).run Tryd.prog w = .ok (.float .f64 r) w.drew ∧ isNaN r = true := by
  have hd : FloatKind.f64.format.div 0 0 = none := by decide
  refine ⟨_, ?_, nan_cut (w.tape w.drawn (.nanBits .f64 0 0))⟩
  simp [binOp, Op.floatArith, hd, Question.forced, Question.cut]
theorem none_any (w : World) :
    Calls Tryd.prog 8 #[] w fun e w' => (∃ r, e = .returned (.float .f64 r) ∧ isNaN r = true) ∧ Below w.heap.size w w' := by
  obtain ⟨r, hr, hn⟩ := r_nan w
  have HN := Lib.hid hn
  clear hn
  go_enter Tryd.func8, Tryd.ntmps8
  go_wp2_with fail
  go_ret
  exact ⟨⟨r, rfl, HN.out⟩, (Below.refl _ _).drew⟩

end Go.Proofs.YtdbcendnibgcaaaDoor.ClkC
end

section
/-
  zlib.over: a product of any floats.
-/
namespace Go.Proofs.YtdbcendnibgcaaaDoor.ZlC
open Go.RowKit Go.My Flt

theorem mul_any (x y : Nat) (w : World) : ∃ r W, (binOp .mul 32 (.float .f64 x) (.float .f64 y)).run Tryd.prog w = .ok (.float .f64 r) W ∧ Below w.heap.size w W ∧ (FloatKind.f64.format.mul x y = some r ∨ (FloatKind.f64.format.mul x y = none ∧ isNaN r = true)) := by
  cases h : FloatKind.f64.format.mul x y with
  | some r => exact ⟨r, w, run_float_arith w .mul _ .f64 x y r h, Below.refl _ _, .inl rfl⟩
  | none =>
    refine ⟨_, w.drew, ?_, (Below.refl _ _).drew, .inr ⟨rfl, ClkC.nan_cut (w.tape w.drawn (.nanBits .f64 x y))⟩⟩
    simp [binOp, Op.floatArith, h, Question.forced, Question.cut]
/-- Are n bytes more than ratio times the used ones? -/
noncomputable def ovr (n used ratio : Nat) : Bool := match FloatKind.f64.format.mul ratio (floatOfInt .f64 (used : Int)) with
  | some r => FloatKind.f64.format.order (floatOfInt .f64 (n : Int)) r == some .gt
  | none => false
theorem ovr_of {n used ratio r : Nat} (h : FloatKind.f64.format.mul ratio (floatOfInt .f64 (used : Int)) = some r ∨ (FloatKind.f64.format.mul ratio (floatOfInt .f64 (used : Int)) = none ∧ isNaN r = true)) :
    (FloatKind.f64.format.order (floatOfInt .f64 (n : Int)) r == some .gt) = ovr n used ratio := by
  unfold ovr
  rcases h with h | ⟨h, hn⟩
  · rw [h]
  · rw [h, ClkC.f_gt, hn]; simp
theorem over_any (n used : Nat) (ratio : Nat) (w : World) :
    Calls Tryd.prog 10 #[.int .i64 (n : Int), .int .i64 (used : Int), .float .f64 ratio] w fun e w' => e = .returned (.bool (ovr n used ratio)) ∧ Below w.heap.size w w' := by
  obtain ⟨r, W, hm, hb, ho⟩ := mul_any ratio (floatOfInt .f64 (used : Int)) w
  have e := ovr_of (n := n) ho
  have HB := Lib.hid hb
  clear hb ho
  generalize ovr n used ratio = K at *
  go_enter Tryd.func10, Tryd.ntmps10
  go_wp2_with fail
  go_ret
  exact ⟨rfl, HB.out⟩
theorem ovr_nan (n used : Nat) {r : Nat} (h : isNaN r = true) : ovr n used r = false := by
  have hm : FloatKind.f64.format.mul r (floatOfInt .f64 (used : Int)) = none := by
    have h' : (FloatKind.f64.format.read r).isNaN = true := h
    unfold Ieee.Format.mul
    cases hr : FloatKind.f64.format.read r with
    | nan => rfl
    | infinity => rw [hr] at h'; cases h'
    | number => rw [hr] at h'; cases h'
  unfold ovr
  rw [hm]
def f1 : Nat := 4607182418800017408
end Go.Proofs.YtdbcendnibgcaaaDoor.ZlC
end

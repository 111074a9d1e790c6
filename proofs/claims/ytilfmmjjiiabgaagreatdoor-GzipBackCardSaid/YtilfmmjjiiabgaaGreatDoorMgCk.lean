import Derived.Test.YtilfmmjjiiabgaaGreatDoorRows
import Derived.Test.YtilfmmjjiiabgaaGreatDoorMgAa
import Derived.Test.YtilfmmjjiiabgaaGreatDoorMgAg
import Derived.Laws.Externs
import Derived.Laws.Rows
import Derived.Laws.CopyOwn
import Derived.Test.YtilfmmjjiiabgaaGreatDoorMgAd
import Derived.Laws.StructEq
import Derived.OrdersHeld

section
namespace Go.Proofs.YtilfmmjjiiabgaaGreatDoor.ClkC
open Go.RowKit Go.My Flt

theorem ret_float {a b : Nat} (h : a = b) : Ending.returned (.float .f64 a) = .returned (.float .f64 b) := by rw [h]
theorem f_eq (x y : Nat) : (FloatKind.f64.format.order x y == some .eq) = (!isNaN x && !isNaN y && decide (K x = K y)) := cmp_eq x y
theorem f_ne (x y : Nat) : (FloatKind.f64.format.order x y != some .eq) = !(!isNaN x && !isNaN y && decide (K x = K y)) := by rw [← f_eq]; rfl
theorem f_lt (x y : Nat) : (FloatKind.f64.format.order x y == some .lt) = (!isNaN x && !isNaN y && decide (K x < K y)) := cmp_lt x y
theorem f_gt (x y : Nat) : (FloatKind.f64.format.order x y == some .gt) = (!isNaN x && !isNaN y && decide (K y < K x)) := cmp_gt x y
theorem f_ge (x y : Nat) : (FloatKind.f64.format.order x y == some .gt || FloatKind.f64.format.order x y == some .eq) = (!isNaN x && !isNaN y && decide (K y ≤ K x)) := by
  rw [f_gt, f_eq]
  cases isNaN x <;> cases isNaN y <;> simp
  rw [Bool.eq_iff_iff]; simp; omega
abbrev nanW : Nat := 9221120237041090561
theorem isNaN_nanW : isNaN nanW = true := by decide
theorem nan_any (w : World) : Calls Tryz.prog 51 #[] w fun e w' => e = .returned (.float .f64 nanW) ∧ w = w' := by
  have hr : ∀ w, (callFunc 70 #[.int .u64 9221120237041090561]).run Tryz.prog w = .ok (.value (.float .f64 nanW)) w := fun w => by
    rw [run_callFunc_extern (e := Extern.MathFloatBits.float64frombits) Tryz.func70 (by kernel_rfl) (by kernel_rfl) (by kernel_rfl) (by kernel_rfl)]
    rfl
  go_enter Tryz.func51, Tryz.ntmps51
  go_wp2_with fail
  go_ret
  exact ⟨rfl, rfl⟩

theorem k_u : fl 2199023255040 = 4751297606873776128 := by decide +kernel
theorem K_u : K 4751297606873776128 = 2199023255040 * (Q : Int) := by rw [← k_u]; exact K_fl _ (by decide)
theorem K_0 : K 0 = 0 := by have := K_fl 0 (by decide); rw [fl_zero] at this; omega
theorem n_u : isNaN 4751297606873776128 = false := by rw [← k_u]; exact isNaN_fl _ (by decide)
theorem n_0 : isNaN 0 = false := by decide

theorem self_nan {t : Nat} (h : isNaN t = true) : (FloatKind.f64.format.order t t != some .eq) = true := by rw [f_ne, h]; rfl
theorem self_num {t : Nat} (h : isNaN t = false) : (FloatKind.f64.format.order t t != some .eq) = false := by rw [f_ne, h]; simp
theorem in_range {t : Nat} (hn : isNaN t = false) (h1 : -4398046511104 * (Q : Int) ≤ K t) (h2 : K t ≤ 4398046511104 * (Q : Int)) : fin t ∧ (K t).natAbs ≤ 2 ^ 43 * Q ∧ -4398046511104 ≤ par t ∧ par t ≤ 4398046511104 := by
  have hQ := Q_pos
  have hbig : 4398046511104 * (Q : Int) < (big : Int) := by
    have h : 4398046511104 * Q < big := by
      unfold Q big
      rw [show (4398046511104 : Nat) = 2 ^ 42 from rfl, ← Nat.pow_add]
      exact Nat.pow_lt_pow_right (by omega) (by rw [e1065_eq, e2200_eq]; omega)
    have := Int.ofNat_lt.2 h
    rwa [Int.natCast_mul] at this
  refine ⟨fin_of_K hn (by omega) (by omega), ?_, (ge_iff _ _).1 h1, par_le h2⟩
  rw [show (2 : Nat) ^ 43 = 8796093022208 from rfl]
  omega

end Go.Proofs.YtilfmmjjiiabgaaGreatDoor.ClkC
end

section
/-
  The proleptic Gregorian calendar as plain arithmetic: no program, no dump.
-/
namespace Go.My.Clk

def ahead (y : Int) : Int := y * 365 + (y - 1) / 4 - (y - 1) / 100 + (y - 1) / 400 + 1
/-- Days from 1970 to a year's beginning. -/
def d2 (y : Int) : Int := ahead y - 719528
end Go.My.Clk
end

section
namespace Go.Proofs.YtilfmmjjiiabgaaGreatDoor.ClkC
open Go.RowKit Go.My Clk

end Go.Proofs.YtilfmmjjiiabgaaGreatDoor.ClkC
end

section
namespace Go.Proofs.YtilfmmjjiiabgaaGreatDoor.ClkC
open Go.RowKit Go.My Clk

end Go.Proofs.YtilfmmjjiiabgaaGreatDoor.ClkC
end

section
namespace Go.Proofs.YtilfmmjjiiabgaaGreatDoor.ClkC
open Go.RowKit Go.My Clk

end Go.Proofs.YtilfmmjjiiabgaaGreatDoor.ClkC
end

section
namespace Go.Proofs.YtilfmmjjiiabgaaGreatDoor.ClkC
open Go.RowKit Go.My Clk

end Go.Proofs.YtilfmmjjiiabgaaGreatDoor.ClkC
end

section
namespace Go.Proofs.YtilfmmjjiiabgaaGreatDoor.ClkC
open Go.RowKit Go.My Flt Clk

theorem r_int {x : Nat} {n : Int} (hx : fin x) (h : Int.tdiv (K x) (U : Int) = n) (h1 : -9223372036854775808 ≤ n) (h2 : n ≤ 9223372036854775807) (w : World) :
    (convert 23 3 (.float .f64 x)).run Tryz.prog w = .ok (.int .i64 n) w := by
  refine run_convert_float_int w _ _ .f64 .i64 x n (by kernel_rfl) Tryz.underlying3 ?_
  have ht : (FloatKind.f64.decode x).toInt .zero = some n := by rw [← h]; exact toInt_K x hx
  unfold floatToIntVal
  simp only [ht]
  rw [if_pos ⟨h1, h2⟩]
end Go.Proofs.YtilfmmjjiiabgaaGreatDoor.ClkC
end

section
namespace Go.Proofs.YtilfmmjjiiabgaaGreatDoor.ClkC
open Go.RowKit Go.My Flt

theorem nan_cut (t : Nat) : isNaN ((t % 2) * 2 ^ 63 + 0x7ff0000000000000 + 1 + (t / 2) % (2 ^ 52 - 1)) = true := by
  have h1 : t % 2 < 2 := Nat.mod_lt _ (by omega)
  have h2 : (t / 2) % (2 ^ 52 - 1) < 2 ^ 52 - 1 := Nat.mod_lt _ (by omega)
  generalize t % 2 = s at *
  generalize (t / 2) % (2 ^ 52 - 1) = k at *
  have e : s * 2 ^ 63 + 0x7ff0000000000000 + 1 + k = D.word (s == 1) (9218868437227405313 + k) := by
    unfold Ieee.Format.word
    rw [sign_eq]
    have : s = 0 ∨ s = 1 := by omega
    rcases this with rfl | rfl
    · simp <;> omega
    · simp <;> omega
  unfold isNaN
  rw [e, read_word _ _ (by omega), if_neg (by omega), if_neg (by omega), if_neg (by omega)]
  rfl
theorem r_nan (w : World) : ∃ r, (binOp .quo 23 (.float .f64 0) (.float .f64 0)).run Tryz.prog w = .ok (.float .f64 r) w.drew ∧ isNaN r = true := by
  have hd : FloatKind.f64.format.div 0 0 = none := by decide
  refine ⟨_, ?_, nan_cut (w.tape w.drawn (.nanBits .f64 0 0))⟩
  simp [binOp, Op.floatArith, hd, Question.forced, Question.cut]
theorem none_any (w : World) :
    Calls Tryz.prog 11 #[] w fun e w' => (∃ r, e = .returned (.float .f64 r) ∧ isNaN r = true) ∧ Below w.heap.size w w' := by
  obtain ⟨r, hr, hn⟩ := r_nan w
  have HN := Lib.hid hn
  clear hn
  go_enter Tryz.func11, Tryz.ntmps11
  go_wp2_with fail
  go_ret
  exact ⟨⟨r, rfl, HN.out⟩, (Below.refl _ _).drew⟩

noncomputable def unixT (t : Nat) : Int := if isNaN t then 0 else max 0 (min 4294967295 (par t / 512))
set_option maxRecDepth 100000 in
theorem unix_any (t : Nat) (w : World) :
    Calls Tryz.prog 25 #[.float .f64 t] w fun e w' => e = .returned (.int .i64 (unixT t)) ∧ w = w' := by
  cases hn : isNaN t
  case true =>
    have e1 := self_nan hn
    have HP : Hid (unixT t = 0) := Lib.hid (by unfold unixT; rw [hn]; rfl)
    rw [HP.out]
    clear hn HP
    go_enter Tryz.func25, Tryz.ntmps25
    go_wp2_with fail
    go_ret
    exact ⟨rfl, rfl⟩
  have e1 := self_num hn
  have hP : unixT t = max 0 (min 4294967295 (par t / 512)) := by unfold unixT; rw [hn]; rfl
  by_cases hlo : K t < 0
  · have e2 : (FloatKind.f64.format.order t 0 == some .lt) = true := by rw [f_lt, hn, n_0, K_0, decide_eq_true hlo]; rfl
    have HP : Hid (unixT t = 0) := Lib.hid (by
      have := (lt_iff t 0).1 (by omega)
      rw [hP]; omega)
    rw [HP.out]
    clear hn HP hP hlo
    go_enter Tryz.func25, Tryz.ntmps25
    go_wp2_with fail
    go_ret
    exact ⟨rfl, rfl⟩
  have e2 : (FloatKind.f64.format.order t 0 == some .lt) = false := by rw [f_lt, hn, n_0, K_0, decide_eq_false hlo]; rfl
  by_cases hhi : 2199023255040 * (Q : Int) ≤ K t
  · have e3 : (FloatKind.f64.format.order t 4751297606873776128 == some .gt || FloatKind.f64.format.order t 4751297606873776128 == some .eq) = true := by rw [f_ge, hn, n_u, K_u, decide_eq_true hhi]; rfl
    have HP : Hid (unixT t = 4294967295) := Lib.hid (by
      have := (ge_iff t _).1 hhi
      rw [hP]; omega)
    rw [HP.out]
    clear hn HP hP hlo hhi
    go_enter Tryz.func25, Tryz.ntmps25
    go_wp2_with fail
    go_ret
    exact ⟨rfl, rfl⟩
  have e3 : (FloatKind.f64.format.order t 4751297606873776128 == some .gt || FloatKind.f64.format.order t 4751297606873776128 == some .eq) = false := by rw [f_ge, hn, n_u, K_u, decide_eq_false hhi]; rfl
  have hQ := Q_pos
  obtain ⟨hfin, _, hp1, hp2⟩ := in_range hn (by omega) (by omega)
  have hq1 := (ge_iff t 0).1 (by omega)
  have hq2 := (lt_iff t 2199023255040).1 (by omega)
  have htd : Int.tdiv (K t) (U : Int) = par t / 512 := by
    rw [← sec_eq]
    exact Int.tdiv_eq_ediv_of_nonneg (by omega)
  have hc := r_int hfin htd (by omega) (by omega)
  have HP : Hid (unixT t = par t / 512) := Lib.hid (by rw [hP]; omega)
  rw [HP.out]
  clear hn HP hP hlo hhi hfin htd hp1 hp2 hq1 hq2
  generalize par t / 512 = n at *
  go_enter Tryz.func25, Tryz.ntmps25
  go_wp2_with fail
  go_ret
  exact ⟨rfl, rfl⟩

def fromU (v : Int) : Nat := if v < 1 ∨ 4294967295 < v then nanW else fl (512 * v)
theorem fromunix_any (v : Int) (w : World) :
    Calls Tryz.prog 40 #[.int .i64 v] w fun e w' => e = .returned (.float .f64 (fromU v)) ∧ w = w' := by
  unfold fromU
  by_cases h1 : v < 1
  · rw [if_pos (.inl h1)]
    go_enter Tryz.func40, Tryz.ntmps40
    go_wp2_with fail
    refine (nan_any w).mono ?_
    rintro e w' ⟨rfl, rfl⟩
    go_wp2_with fail
    go_ret
    exact ⟨rfl, rfl⟩
  by_cases h2 : 4294967295 < v
  · rw [if_pos (.inr h2)]
    go_enter Tryz.func40, Tryz.ntmps40
    go_wp2_with fail
    refine (nan_any w).mono ?_
    rintro e w' ⟨rfl, rfl⟩
    go_wp2_with fail
    go_ret
    exact ⟨rfl, rfl⟩
  rw [if_neg (by omega)]
  have HF : Hid (floatOfInt .f64 v = fl (512 * v)) := Lib.hid (floatOfInt_fl v (by omega))
  go_enter Tryz.func40, Tryz.ntmps40
  go_wp2_with fail
  go_ret
  exact ⟨ret_float HF.out, rfl⟩
end Go.Proofs.YtilfmmjjiiabgaaGreatDoor.ClkC
end

section
/-
  A region that draws its order, taken operation by operation in the text's own order: what yields its value in every later world is taken first; what makes memory stands alone. No dump.
-/
namespace Go.My
open Go.RowKit
section
variable {P : Program} {ops : Array Oper} {Q : Exit → Act → World → Prop} {md : Region.Mode} {S : World → Prop}

/-- One operation that yields its value in every world that meets S. -/
theorem ord_take {i : Nat} {o : Oper} {d : Option Tmp} (v : Value) {fuel : Nat} {listed : Array Bool} {a : Act} {w : World} (hi : ops[i]? = some o) (hd : o.dst = d)
    (hs : Region.noSelect ops = true) (hf : Region.free md ops listed i = true) (hr : (Region.ready md ops listed).contains i = true)
    (hQ : ∀ c a w, Q (.panic c) (a.put d v) w → Q (.panic c) a w) (hw : Region.wanted o (yielded ops a.tmps) = true) (hy : ∀ w, S w → (execOp a.eval o).run P w = .ok (.value v) w) (hS : S w)
    (h : wpAnyH P md ops Q S fuel (listed.setIfInBounds i true) (a.put d v) w) : wpAnyH P md ops Q S (fuel + 1) listed a w := by
  subst hd
  exact wpAnyH_take hi hs hf hr hQ (.inl ⟨hw, hy⟩) hS h
/-- The one operation that may come up. -/
theorem ord_alone {i : Nat} {o : Oper} {fuel : Nat} {listed : Array Bool} {a : Act} {w : World} (hi : ops[i]? = some o) (hr : Region.ready md ops listed = [i])
    (hw : Region.wanted o (yielded ops a.tmps) = true)
    (h : o.wp P a w (fun a' w' => S w' ∧ wpAnyH P md ops Q S fuel (listed.setIfInBounds i true) a' w') Q) : wpAnyH P md ops Q S (fuel + 1) listed a w := by
  refine wpAnyH_all hr (by simp) fun j hj => ?_
  obtain rfl : j = i := by simpa using hj
  unfold wpOp
  simp only [hi, hw, if_true]
  exact .inl h
end
end Go.My
end

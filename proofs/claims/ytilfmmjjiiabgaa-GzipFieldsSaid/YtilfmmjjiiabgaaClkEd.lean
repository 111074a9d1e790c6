import Derived.Test.YtilfmmjjiiabgaaClkT
import Derived.Lib.Bytealg
import Derived.Test.YtilfmmjjiiabgaaClkG
import Derived.Test.YtilfmmjjiiabgaaClkV
import Derived.Test.YtilfmmjjiiabgaaRows
import Derived.Test.YtilfmmjjiiabgaaLib
import Derived.Test.YtilfmmjjiiabgaaClk
import Derived.Laws.Rows
import Derived.Laws.CopyOwn
import Derived.Test.YtilfmmjjiiabgaaLater
import Derived.Laws.StructEq
namespace Go.Proofs.Ytilfmmjjiiabgaa.ClkC
open Go.RowKit Go.My Flt NumMath Txt Clk

noncomputable def sameF (a b : Nat) : Bool := (!isNaN a && !isNaN b && decide (K a = K b)) || (isNaN a && isNaN b)
theorem same_cases (a b : Nat) : ((FloatKind.f64.format.order a b == some .eq) = true ∧ sameF a b = true) ∨
    ((FloatKind.f64.format.order a b == some .eq) = false ∧ (FloatKind.f64.format.order a a != some .eq) = false ∧ sameF a b = false) ∨
    ((FloatKind.f64.format.order a b == some .eq) = false ∧ (FloatKind.f64.format.order a a != some .eq) = true ∧ (FloatKind.f64.format.order b b != some .eq) = false ∧ sameF a b = false) ∨
    ((FloatKind.f64.format.order a b == some .eq) = false ∧ (FloatKind.f64.format.order a a != some .eq) = true ∧ (FloatKind.f64.format.order b b != some .eq) = true ∧ sameF a b = true) := by
  rw [f_eq, f_ne, f_ne]
  unfold sameF
  cases isNaN a <;> cases isNaN b <;> simp
  by_cases h : K a = K b <;> simp [h]
theorem refsame_any (a b : Nat) (w : World) :
    Calls Try.prog 22 #[.float .f64 a, .float .f64 b] w fun e w' => e = .returned (.bool (sameF a b)) ∧ w = w' := by
  rcases same_cases a b with ⟨h1, h⟩ | ⟨h1, h2, h⟩ | ⟨h1, h2, h3, h⟩ | ⟨h1, h2, h3, h⟩
  all_goals
    rw [h]
    clear h
    go_enter Try.func22, Try.ntmps22
    go_wp2_with fail
    go_ret
    exact ⟨rfl, rfl⟩
theorem refunix_any (t : Nat) (w : World) :
    Calls Try.prog 26 #[.float .f64 t] w fun e w' => e = .returned (.int .i64 (unixT t)) ∧ w = w' := by
  by_cases h0 : isNaN t = false ∧ 0 ≤ K t
  case neg =>
    have e1 : (FloatKind.f64.format.order t 0 == some .gt || FloatKind.f64.format.order t 0 == some .eq) = false := by
      rw [f_ge, n_0, K_0]
      cases hn : isNaN t
      · simp; by_cases hk : 0 ≤ K t
        · exact absurd ⟨hn, hk⟩ h0
        · omega
      · rfl
    have HP : Hid (unixT t = 0) := Lib.hid (by
      unfold unixT
      cases hn : isNaN t
      · have hk : K t < 0 * (Q : Int) := by
          by_cases hk : 0 ≤ K t
          · exact absurd ⟨hn, hk⟩ h0
          · omega
        have := (lt_iff t 0).1 hk
        simp only [Bool.false_eq_true, if_false]
        omega
      · rfl)
    rw [HP.out]
    clear h0 HP
    go_enter Try.func26, Try.ntmps26
    go_wp2_with fail
    go_ret
    exact ⟨rfl, rfl⟩
  obtain ⟨hn, hk⟩ := h0
  have e1 : (FloatKind.f64.format.order t 0 == some .gt || FloatKind.f64.format.order t 0 == some .eq) = true := by rw [f_ge, hn, n_0, K_0, decide_eq_true hk]; rfl
  have hP : unixT t = max 0 (min 4294967295 (par t / 512)) := by unfold unixT; rw [hn]; rfl
  by_cases hhi : 2199023255040 * (Q : Int) ≤ K t
  · have e3 : (FloatKind.f64.format.order t 4751297606873776128 == some .gt || FloatKind.f64.format.order t 4751297606873776128 == some .eq) = true := by rw [f_ge, hn, n_u, K_u, decide_eq_true hhi]; rfl
    have HP : Hid (unixT t = 4294967295) := Lib.hid (by
      have := (ge_iff t _).1 hhi
      rw [hP]; omega)
    rw [HP.out]
    clear hn HP hP hk hhi
    go_enter Try.func26, Try.ntmps26
    go_wp2_with fail
    go_ret
    exact ⟨rfl, rfl⟩
  have e3 : (FloatKind.f64.format.order t 4751297606873776128 == some .gt || FloatKind.f64.format.order t 4751297606873776128 == some .eq) = false := by rw [f_ge, hn, n_u, K_u, decide_eq_false hhi]; rfl
  have hQ := Q_pos
  obtain ⟨hfin, _, hp1, hp2⟩ := in_range hn (by omega) (by omega)
  have hq1 := (ge_iff t 0).1 (by omega)
  have hq2 := (lt_iff t 2199023255040).1 (by omega)
  have HW := Lib.hid (fun w => whole_any t w hfin (by rw [sec_eq]; omega) (by rw [sec_eq]; omega))
  rw [sec_eq] at HW
  have HP : Hid (unixT t = par t / 512) := Lib.hid (by rw [hP]; omega)
  rw [HP.out]
  clear hn HP hP hk hhi hfin hp1 hp2 hq1 hq2
  generalize par t / 512 = n at *
  go_enter Try.func26, Try.ntmps26
  go_wp2_with fail
  refine (HW.out w).mono ?_
  rintro e w' ⟨rfl, rfl⟩
  go_wp2_with fail
  go_ret
  exact ⟨rfl, rfl⟩

/-- A float that is the same as fromU's, or another NaN where that is one. -/
def Like (x r : Nat) : Prop := r = x ∨ (isNaN x = true ∧ isNaN r = true)
theorem reffromunix_any (v : Int) (w : World) :
    Calls Try.prog 20 #[.int .i64 v] w fun e w' => (∃ r, e = .returned (.float .f64 r) ∧ Like (fromU v) r) ∧ Below w.heap.size w w' := by
  unfold fromU
  by_cases h1 : v < 1
  · rw [if_pos (.inl h1)]
    go_enter Try.func20, Try.ntmps20
    go_wp2_with fail
    refine (none_any w).mono ?_
    rintro e w' ⟨⟨r, rfl, hr⟩, hb⟩
    have HR := Lib.hid hr
    clear hr
    go_wp2_with fail
    go_ret
    exact ⟨⟨r, rfl, .inr ⟨isNaN_nanW, HR.out⟩⟩, hb⟩
  by_cases h2 : 4294967295 < v
  · rw [if_pos (.inr h2)]
    go_enter Try.func20, Try.ntmps20
    go_wp2_with fail
    refine (none_any w).mono ?_
    rintro e w' ⟨⟨r, rfl, hr⟩, hb⟩
    have HR := Lib.hid hr
    clear hr
    go_wp2_with fail
    go_ret
    exact ⟨⟨r, rfl, .inr ⟨isNaN_nanW, HR.out⟩⟩, hb⟩
  rw [if_neg (by omega)]
  have HF : Hid (floatOfInt .f64 v = fl (512 * v)) := Lib.hid (floatOfInt_fl v (by omega))
  go_enter Try.func20, Try.ntmps20
  go_wp2_with fail
  go_ret
  exact ⟨⟨_, rfl, .inl HF.out⟩, Below.refl _ _⟩

end Go.Proofs.Ytilfmmjjiiabgaa.ClkC

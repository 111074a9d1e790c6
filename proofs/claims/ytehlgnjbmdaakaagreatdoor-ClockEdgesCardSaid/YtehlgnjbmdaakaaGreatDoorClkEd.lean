import Derived.Test.YtehlgnjbmdaakaaGreatDoorClkH
import Derived.Test.YtehlgnjbmdaakaaGreatDoorClkV
import Derived.Test.YtehlgnjbmdaakaaGreatDoorClkX
import Derived.Test.YtehlgnjbmdaakaaGreatDoorClkR
namespace Go.Proofs.YtehlgnjbmdaakaaGreatDoor.ClkC
open Go.RowKit Go.My Flt NumMath Txt Clk

noncomputable def sameF (a b : Nat) : Bool := (!isNaN a && !isNaN b && decide (K a = K b)) || (isNaN a && isNaN b)
theorem same_cases (a b : Nat) : ((FloatKind.f64.format.order a b == some .eq) = true ∧ sameF a b = true) ∨
    ((FloatKind.f64.format.order a b == some .eq) = false ∧ (FloatKind.f64.format.order a a != some .eq) = false ∧ sameF a b = false) ∨
    ((FloatKind.f64.format.order a b == some .eq) = false ∧ (FloatKind.f64.format.order a a != some .eq) = true ∧ (FloatKind.f64.format.order b b != some .eq) = false ∧ sameF a b = false) ∨
    ((FloatKind.f64.format.order a b == some .eq) = false ∧ (FloatKind.f64.format.order a a != some .eq) = true ∧ (FloatKind.f64.format.order b b != some .eq) = true ∧ sameF a b = true) := by
  rw [f_eq, f_ne, f_ne]
  unfold sameF
  cases isNaN a <;> cases isNaN b <;> simp
  by_cases h : K a = K b <;> simp [h]
theorem clocksame_any (a b : Nat) (w : World) :
    Calls Tryz.prog 5 #[.float .f64 a, .float .f64 b] w fun e w' => e = .returned (.bool (sameF a b)) ∧ w = w' := by
  rcases same_cases a b with ⟨h1, h⟩ | ⟨h1, h2, h⟩ | ⟨h1, h2, h3, h⟩ | ⟨h1, h2, h3, h⟩
  all_goals
    rw [h]
    clear h
    go_enter Tryz.func5, Tryz.ntmps5
    go_wp2_with fail
    go_ret
    exact ⟨rfl, rfl⟩
theorem refsame_any (a b : Nat) (w : World) :
    Calls Tryz.prog 6 #[.float .f64 a, .float .f64 b] w fun e w' => e = .returned (.bool (sameF a b)) ∧ w = w' := by
  rcases same_cases a b with ⟨h1, h⟩ | ⟨h1, h2, h⟩ | ⟨h1, h2, h3, h⟩ | ⟨h1, h2, h3, h⟩
  all_goals
    rw [h]
    clear h
    go_enter Tryz.func6, Tryz.ntmps6
    go_wp2_with fail
    go_ret
    exact ⟨rfl, rfl⟩
theorem refunix_any (t : Nat) (w : World) :
    Calls Tryz.prog 8 #[.float .f64 t] w fun e w' => e = .returned (.int .i64 (unixT t)) ∧ w = w' := by
  by_cases h0 : isNaN t = false ∧ 0 ≤ K t
  case neg =>
    have e1 : (FloatKind.f64.format.order t 0 == some .gt || FloatKind.f64.format.order t 0 == some .eq) = false := by
      rw [f_ge, n_0, K_0]
      cases hn : isNaN t
      · simp; by_cases hk : 0 ≤ K t
        · exact absurd ⟨hn, hk⟩ h0
        · omega
      · rfl
    have HP : Hid (unixT t = 0) := Lib.hid (by
      unfold unixT
      cases hn : isNaN t
      · have hk : K t < 0 * (Q : Int) := by
          by_cases hk : 0 ≤ K t
          · exact absurd ⟨hn, hk⟩ h0
          · omega
        have := (lt_iff t 0).1 hk
        simp only [Bool.false_eq_true, if_false]
        omega
      · rfl)
    rw [HP.out]
    clear h0 HP
    go_enter Tryz.func8, Tryz.ntmps8
    go_wp2_with fail
    go_ret
    exact ⟨rfl, rfl⟩
  obtain ⟨hn, hk⟩ := h0
  have e1 : (FloatKind.f64.format.order t 0 == some .gt || FloatKind.f64.format.order t 0 == some .eq) = true := by rw [f_ge, hn, n_0, K_0, decide_eq_true hk]; rfl
  have hP : unixT t = max 0 (min 4294967295 (par t / 512)) := by unfold unixT; rw [hn]; rfl
  by_cases hhi : 2199023255040 * (Q : Int) ≤ K t
  · have e3 : (FloatKind.f64.format.order t 4751297606873776128 == some .gt || FloatKind.f64.format.order t 4751297606873776128 == some .eq) = true := by rw [f_ge, hn, n_u, K_u, decide_eq_true hhi]; rfl
    have HP : Hid (unixT t = 4294967295) := Lib.hid (by
      have := (ge_iff t _).1 hhi
      rw [hP]; omega)
    rw [HP.out]
    clear hn HP hP hk hhi
    go_enter Tryz.func8, Tryz.ntmps8
    go_wp2_with fail
    go_ret
    exact ⟨rfl, rfl⟩
  have e3 : (FloatKind.f64.format.order t 4751297606873776128 == some .gt || FloatKind.f64.format.order t 4751297606873776128 == some .eq) = false := by rw [f_ge, hn, n_u, K_u, decide_eq_false hhi]; rfl
  have hQ := Q_pos
  obtain ⟨hfin, _, hp1, hp2⟩ := in_range hn (by omega) (by omega)
  have hq1 := (ge_iff t 0).1 (by omega)
  have hq2 := (lt_iff t 2199023255040).1 (by omega)
  have HW := Lib.hid (fun w => whole_any t w hfin (by rw [sec_eq]; omega) (by rw [sec_eq]; omega))
  rw [sec_eq] at HW
  have HP : Hid (unixT t = par t / 512) := Lib.hid (by rw [hP]; omega)
  rw [HP.out]
  clear hn HP hP hk hhi hfin hp1 hp2 hq1 hq2
  generalize par t / 512 = n at *
  go_enter Tryz.func8, Tryz.ntmps8
  go_wp2_with fail
  refine (HW.out w).mono ?_
  rintro e w' ⟨rfl, rfl⟩
  go_wp2_with fail
  go_ret
  exact ⟨rfl, rfl⟩

/-- A float that is the same as fromU's, or another NaN where that is one. -/
def Like (x r : Nat) : Prop := r = x ∨ (isNaN x = true ∧ isNaN r = true)
theorem reffromunix_any (v : Int) (w : World) :
    Calls Tryz.prog 11 #[.int .i64 v] w fun e w' => (∃ r, e = .returned (.float .f64 r) ∧ Like (fromU v) r) ∧ Below w.heap.size w w' := by
  unfold fromU
  by_cases h1 : v < 1
  · rw [if_pos (.inl h1)]
    go_enter Tryz.func11, Tryz.ntmps11
    go_wp2_with fail
    refine (none_any w).mono ?_
    rintro e w' ⟨⟨r, rfl, hr⟩, hb⟩
    have HR := Lib.hid hr
    clear hr
    go_wp2_with fail
    go_ret
    exact ⟨⟨r, rfl, .inr ⟨isNaN_nanW, HR.out⟩⟩, hb⟩
  by_cases h2 : 4294967295 < v
  · rw [if_pos (.inr h2)]
    go_enter Tryz.func11, Tryz.ntmps11
    go_wp2_with fail
    refine (none_any w).mono ?_
    rintro e w' ⟨⟨r, rfl, hr⟩, hb⟩
    have HR := Lib.hid hr
    clear hr
    go_wp2_with fail
    go_ret
    exact ⟨⟨r, rfl, .inr ⟨isNaN_nanW, HR.out⟩⟩, hb⟩
  rw [if_neg (by omega)]
  have HF : Hid (floatOfInt .f64 v = fl (512 * v)) := Lib.hid (floatOfInt_fl v (by omega))
  go_enter Tryz.func11, Tryz.ntmps11
  go_wp2_with fail
  go_ret
  exact ⟨⟨_, rfl, .inl HF.out⟩, Below.refl _ _⟩

set_option maxRecDepth 100000 in
set_option maxHeartbeats 400000 in
theorem reffromdos_any (v : Int) (w : World) :
    Calls Tryz.prog 15 #[.int .i64 v] w fun e w' => (∃ r, e = .returned (.float .f64 r) ∧ Like (fromD v) r) ∧ Below w.heap.size w w' := by
  unfold fromD
  by_cases h1 : v < 0
  · rw [if_pos (.inl h1)]
    go_enter Tryz.func15, Tryz.ntmps15
    go_wp2_with fail
    refine (none_any w).mono ?_
    rintro e w' ⟨⟨r, rfl, hr⟩, hb⟩
    have HR := Lib.hid hr
    clear hr
    go_wp2_with fail
    go_ret
    exact ⟨⟨r, rfl, .inr ⟨isNaN_nanW, HR.out⟩⟩, hb⟩
  by_cases h2 : 4294967295 < v
  · rw [if_pos (.inr h2)]
    go_enter Tryz.func15, Tryz.ntmps15
    go_wp2_with fail
    refine (none_any w).mono ?_
    rintro e w' ⟨⟨r, rfl, hr⟩, hb⟩
    have HR := Lib.hid hr
    clear hr
    go_wp2_with fail
    go_ret
    exact ⟨⟨r, rfl, .inr ⟨isNaN_nanW, HR.out⟩⟩, hb⟩
  rw [if_neg (by omega)]
  have hsm := @secD_small v
  have hS := fun w => refseconds_any (v / 65536 / 512 + 1980) (v / 65536 / 32 % 16) (v / 65536 % 32) (v % 65536 / 2048) (v % 65536 / 32 % 64) (v % 32 * 2) w
  have e1 : v / 65536 / 512 + 1980 = fy v := by unfold fy; omega
  have e2 : v / 65536 / 32 % 16 = fm v := by unfold fm; omega
  have e3 : v / 65536 % 32 = fd v := rfl
  have e4 : v % 65536 / 2048 = fh v := by unfold fh; omega
  have e5 : v % 65536 / 32 % 64 = fi v := by unfold fi; omega
  have e6 : v % 32 * 2 = fs v := rfl
  have hB : secB (v / 65536 / 512 + 1980) (v / 65536 / 32 % 16) (v / 65536 % 32) (v % 65536 / 2048) (v % 65536 / 32 % 64) (v % 32 * 2) = okD v := by rw [e1, e2, e3, e4, e5, e6]; rfl
  have hV : secV (v / 65536 / 512 + 1980) (v / 65536 / 32 % 16) (v / 65536 % 32) (v % 65536 / 2048) (v % 65536 / 32 % 64) (v % 32 * 2) = secD v := by rw [e1, e2, e3, e4, e5, e6]; rfl
  rw [hB, hV] at hS
  clear hB hV e1 e2 e3 e4 e5 e6
  generalize secD v = V at *
  generalize okD v = B at *
  unfold dateV at hS
  have a1 := i64_and_mask v 16 (by omega) 65535 65536 rfl rfl
  have a2 := i64_and_mask (v / 65536 / 32) 4 (by omega) 15 16 rfl rfl
  have a3 := i64_and_mask (v / 65536) 5 (by omega) 31 32 rfl rfl
  have a4 := i64_and_mask (v % 65536 / 32) 6 (by omega) 63 64 rfl rfl
  have a5 := i64_and_mask (v % 65536) 5 (by omega) 31 32 rfl rfl
  have HS := Lib.hid hS
  clear hS
  cases B
  · clear hsm
    go_enter Tryz.func15, Tryz.ntmps15
    go_wp2_with fail
    refine (HS.out _).mono ?_
    rintro e w1 ⟨rfl, b1⟩
    have B1 := (alloc_below w _).trans (b1.mono (by simp))
    clear b1
    go_wp2_with fail
    refine (none_any w1).mono ?_
    rintro e w' ⟨⟨r, rfl, hr⟩, hb⟩
    have HR := Lib.hid hr
    have HB := Lib.hid (B1.trans (hb.mono B1.size))
    clear hr hb B1
    go_wp2_with fail
    go_ret
    exact ⟨⟨r, rfl, .inr ⟨isNaN_nanW, HR.out⟩⟩, HB.out⟩
  · have HF : Hid (floatOfInt .f64 V = fl (512 * V)) := Lib.hid (floatOfInt_fl V (by have := hsm rfl; omega))
    clear hsm
    go_enter Tryz.func15, Tryz.ntmps15
    go_wp2_with fail
    refine (HS.out _).mono ?_
    rintro e w1 ⟨rfl, b1⟩
    have HB := Lib.hid ((alloc_below w _).trans (b1.mono (by simp)))
    clear b1
    go_wp2_with fail
    go_ret
    exact ⟨⟨_, rfl, .inl HF.out⟩, HB.out⟩
end Go.Proofs.YtehlgnjbmdaakaaGreatDoor.ClkC

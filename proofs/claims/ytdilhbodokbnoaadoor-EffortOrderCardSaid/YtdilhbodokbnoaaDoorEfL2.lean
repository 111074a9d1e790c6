/-
  EffortOrder's law.
-/
import Derived.Test.YtdilhbodokbnoaaDoorEfT
namespace Go.Proofs.YtdilhbodokbnoaaDoor.EfC
open Go.RowKit Go.My Flt
theorem ls_self (a : Nat) : ls a a = false := by unfold ls; exact decide_eq_false (by omega)
set_option maxRecDepth 100000 in
theorem order_lt (a b c : Nat) (w : World) (h : Pls w) (h1 : ls a b = true) (h2 : ls b a = false) (h3 : ls b c = true) (h4 : ls a c = true) (hc : lv a ≤ lv b) :
    Calls Tryd.prog 4 #[.float .f64 a, .float .f64 b, .float .f64 c] w fun e w' => e = .returned (.bool true) ∧ Below w.heap.size w w' := by
  have HP := Lib.hid h
  have HT := Lib.hid (told_any w h)
  have HLaa := Lib.hid (fun w => less_any a a w)
  rw [ls_self a] at HLaa
  have HLab := Lib.hid (fun w => less_any a b w)
  rw [h1] at HLab
  have HLac := Lib.hid (fun w => less_any a c w)
  rw [h4] at HLac
  have HLba := Lib.hid (fun w => less_any b a w)
  rw [h2] at HLba
  have HLbc := Lib.hid (fun w => less_any b c w)
  rw [h3] at HLbc
  have HVa := Lib.hid (fun w => level_any a w)
  have HVb := Lib.hid (fun w => level_any b w)
  have HPa := Lib.hid (fun w => plan_any a w)
  have HPb := Lib.hid (fun w => plan_any b w)
  simp only [pl, pv] at HPa HPb
  have hc1 := hc
  have hc2 : ch (lv a) ≤ ch (lv b) := ch_mono hc (lv_le b)
  clear h h1 h2 h3 h4 hc
  generalize lv a = A at *
  generalize lv b = B at *
  generalize ch A = C1 at *
  generalize ch B = C2 at *
  generalize gd A = G1 at *
  generalize gd B = G2 at *
  generalize st A = S1 at *
  generalize st B = S2 at *
  generalize lz A = Z1 at *
  generalize lz B = Z2 at *
  have hc3 : decide ((A : Int) ≤ (B : Int)) = true := decide_eq_true (by omega)
  have hc4 : decide (C1 ≤ C2) = true := decide_eq_true hc2
  have f1 := fld1
  go_enter Tryd.func4, Tryd.ntmps4
  go_wp2_with fail
  refine (HLaa.out w).mono ?_
  rintro e w' ⟨rfl, rfl⟩
  go_wp2_with fail
  refine (HLab.out w).mono ?_
  rintro e w' ⟨rfl, rfl⟩
  go_wp2_with fail
  refine (HLba.out w).mono ?_
  rintro e w' ⟨rfl, rfl⟩
  go_wp2_with fail
  refine (HLab.out w).mono ?_
  rintro e w' ⟨rfl, rfl⟩
  go_wp2_with fail
  refine (HLbc.out w).mono ?_
  rintro e w' ⟨rfl, rfl⟩
  go_wp2_with fail
  refine (HLac.out w).mono ?_
  rintro e w' ⟨rfl, rfl⟩
  go_wp2_with fail
  refine (HLab.out w).mono ?_
  rintro e w' ⟨rfl, rfl⟩
  go_wp2_with fail
  refine HT.out.mono ?_
  rintro e w1 ⟨rfl, b1⟩
  have HP1 := Lib.hid (HP.out.below (Nat.le_refl _) b1)
  have B1 := Lib.hid b1
  clear b1
  go_wp2_with fail
  refine (HLab.out w1).mono ?_
  rintro e w' ⟨rfl, rfl⟩
  go_wp2_with fail
  refine (HVa.out w1).mono ?_
  rintro e w' ⟨rfl, rfl⟩
  go_wp2_with fail
  refine (HVb.out w1).mono ?_
  rintro e w' ⟨rfl, rfl⟩
  go_wp2_with fail
  refine (HPa.out w1 HP1.out).mono ?_
  rintro e w2 ⟨rfl, b2⟩
  have HP2 := Lib.hid (HP1.out.below (Nat.le_refl _) b2)
  have B2 := Lib.hid (B1.out.trans (b2.mono B1.out.size))
  clear b2
  go_wp2_with fail
  refine (HPb.out w2 HP2.out).mono ?_
  rintro e w3 ⟨rfl, b3⟩
  have HP3 := Lib.hid (HP2.out.below (Nat.le_refl _) b3)
  have B3 := Lib.hid (B2.out.trans (b3.mono B2.out.size))
  clear b3
  go_wp2_with fail
  refine (HLab.out w3).mono ?_
  rintro e w' ⟨rfl, rfl⟩
  go_wp2_with fail
  go_ret
  exact ⟨rfl, B3.out⟩
set_option maxRecDepth 100000 in
theorem order_lt2 (a b c : Nat) (w : World) (h : Pls w) (h1 : ls a b = true) (h2 : ls b a = false) (h3 : ls b c = false) (hc : lv a ≤ lv b) :
    Calls Tryd.prog 4 #[.float .f64 a, .float .f64 b, .float .f64 c] w fun e w' => e = .returned (.bool true) ∧ Below w.heap.size w w' := by
  have HP := Lib.hid h
  have HT := Lib.hid (told_any w h)
  have HLaa := Lib.hid (fun w => less_any a a w)
  rw [ls_self a] at HLaa
  have HLab := Lib.hid (fun w => less_any a b w)
  rw [h1] at HLab
  have HLba := Lib.hid (fun w => less_any b a w)
  rw [h2] at HLba
  have HLbc := Lib.hid (fun w => less_any b c w)
  rw [h3] at HLbc
  have HVa := Lib.hid (fun w => level_any a w)
  have HVb := Lib.hid (fun w => level_any b w)
  have HPa := Lib.hid (fun w => plan_any a w)
  have HPb := Lib.hid (fun w => plan_any b w)
  simp only [pl, pv] at HPa HPb
  have hc1 := hc
  have hc2 : ch (lv a) ≤ ch (lv b) := ch_mono hc (lv_le b)
  clear h h1 h2 h3 hc
  generalize lv a = A at *
  generalize lv b = B at *
  generalize ch A = C1 at *
  generalize ch B = C2 at *
  generalize gd A = G1 at *
  generalize gd B = G2 at *
  generalize st A = S1 at *
  generalize st B = S2 at *
  generalize lz A = Z1 at *
  generalize lz B = Z2 at *
  have hc3 : decide ((A : Int) ≤ (B : Int)) = true := decide_eq_true (by omega)
  have hc4 : decide (C1 ≤ C2) = true := decide_eq_true hc2
  have f1 := fld1
  go_enter Tryd.func4, Tryd.ntmps4
  go_wp2_with fail
  refine (HLaa.out w).mono ?_
  rintro e w' ⟨rfl, rfl⟩
  go_wp2_with fail
  refine (HLab.out w).mono ?_
  rintro e w' ⟨rfl, rfl⟩
  go_wp2_with fail
  refine (HLba.out w).mono ?_
  rintro e w' ⟨rfl, rfl⟩
  go_wp2_with fail
  refine (HLab.out w).mono ?_
  rintro e w' ⟨rfl, rfl⟩
  go_wp2_with fail
  refine (HLbc.out w).mono ?_
  rintro e w' ⟨rfl, rfl⟩
  go_wp2_with fail
  refine (HLab.out w).mono ?_
  rintro e w' ⟨rfl, rfl⟩
  go_wp2_with fail
  refine HT.out.mono ?_
  rintro e w1 ⟨rfl, b1⟩
  have HP1 := Lib.hid (HP.out.below (Nat.le_refl _) b1)
  have B1 := Lib.hid b1
  clear b1
  go_wp2_with fail
  refine (HLab.out w1).mono ?_
  rintro e w' ⟨rfl, rfl⟩
  go_wp2_with fail
  refine (HVa.out w1).mono ?_
  rintro e w' ⟨rfl, rfl⟩
  go_wp2_with fail
  refine (HVb.out w1).mono ?_
  rintro e w' ⟨rfl, rfl⟩
  go_wp2_with fail
  refine (HPa.out w1 HP1.out).mono ?_
  rintro e w2 ⟨rfl, b2⟩
  have HP2 := Lib.hid (HP1.out.below (Nat.le_refl _) b2)
  have B2 := Lib.hid (B1.out.trans (b2.mono B1.out.size))
  clear b2
  go_wp2_with fail
  refine (HPb.out w2 HP2.out).mono ?_
  rintro e w3 ⟨rfl, b3⟩
  have HP3 := Lib.hid (HP2.out.below (Nat.le_refl _) b3)
  have B3 := Lib.hid (B2.out.trans (b3.mono B2.out.size))
  clear b3
  go_wp2_with fail
  refine (HLab.out w3).mono ?_
  rintro e w' ⟨rfl, rfl⟩
  go_wp2_with fail
  go_ret
  exact ⟨rfl, B3.out⟩
set_option maxRecDepth 100000 in
theorem order_gt (a b c : Nat) (w : World) (h : Pls w) (h1 : ls a b = false) (h2 : ls b a = true) :
    Calls Tryd.prog 4 #[.float .f64 a, .float .f64 b, .float .f64 c] w fun e w' => e = .returned (.bool true) ∧ Below w.heap.size w w' := by
  have HP := Lib.hid h
  have HT := Lib.hid (told_any w h)
  have HLaa := Lib.hid (fun w => less_any a a w)
  rw [ls_self a] at HLaa
  have HLab := Lib.hid (fun w => less_any a b w)
  rw [h1] at HLab
  have HLba := Lib.hid (fun w => less_any b a w)
  rw [h2] at HLba
  clear h h1 h2
  go_enter Tryd.func4, Tryd.ntmps4
  go_wp2_with fail
  refine (HLaa.out w).mono ?_
  rintro e w' ⟨rfl, rfl⟩
  go_wp2_with fail
  refine (HLab.out w).mono ?_
  rintro e w' ⟨rfl, rfl⟩
  go_wp2_with fail
  refine (HLab.out w).mono ?_
  rintro e w' ⟨rfl, rfl⟩
  go_wp2_with fail
  refine (HLab.out w).mono ?_
  rintro e w' ⟨rfl, rfl⟩
  go_wp2_with fail
  refine (HLba.out w).mono ?_
  rintro e w' ⟨rfl, rfl⟩
  go_wp2_with fail
  refine HT.out.mono ?_
  rintro e w1 ⟨rfl, b1⟩
  have HP1 := Lib.hid (HP.out.below (Nat.le_refl _) b1)
  have B1 := Lib.hid b1
  clear b1
  go_wp2_with fail
  refine (HLab.out w1).mono ?_
  rintro e w' ⟨rfl, rfl⟩
  go_wp2_with fail
  refine (HLab.out w1).mono ?_
  rintro e w' ⟨rfl, rfl⟩
  go_wp2_with fail
  refine (HLba.out w1).mono ?_
  rintro e w' ⟨rfl, rfl⟩
  go_wp2_with fail
  go_ret
  exact ⟨rfl, B1.out⟩
set_option maxRecDepth 100000 in
theorem order_eq (a b c : Nat) (w : World) (h : Pls w) (h1 : ls a b = false) (h2 : ls b a = false) (v : Bool) (h3 : ls b c = v) (h4 : ls a c = v) (hc : lv a = lv b) :
    Calls Tryd.prog 4 #[.float .f64 a, .float .f64 b, .float .f64 c] w fun e w' => e = .returned (.bool true) ∧ Below w.heap.size w w' := by
  have HP := Lib.hid h
  have HT := Lib.hid (told_any w h)
  have HLaa := Lib.hid (fun w => less_any a a w)
  rw [ls_self a] at HLaa
  have HLab := Lib.hid (fun w => less_any a b w)
  rw [h1] at HLab
  have HLac := Lib.hid (fun w => less_any a c w)
  rw [h4] at HLac
  have HLba := Lib.hid (fun w => less_any b a w)
  rw [h2] at HLba
  have HLbc := Lib.hid (fun w => less_any b c w)
  rw [h3] at HLbc
  have HVa := Lib.hid (fun w => level_any a w)
  have HVb := Lib.hid (fun w => level_any b w)
  rw [← hc] at HVb
  clear h h1 h2 h3 h4 hc
  generalize lv a = A at *
  go_enter Tryd.func4, Tryd.ntmps4
  go_wp2_with fail
  refine (HLaa.out w).mono ?_
  rintro e w' ⟨rfl, rfl⟩
  go_wp2_with fail
  refine (HLab.out w).mono ?_
  rintro e w' ⟨rfl, rfl⟩
  go_wp2_with fail
  refine (HLab.out w).mono ?_
  rintro e w' ⟨rfl, rfl⟩
  go_wp2_with fail
  refine (HLab.out w).mono ?_
  rintro e w' ⟨rfl, rfl⟩
  go_wp2_with fail
  refine (HLba.out w).mono ?_
  rintro e w' ⟨rfl, rfl⟩
  go_wp2_with fail
  refine (HLac.out w).mono ?_
  rintro e w' ⟨rfl, rfl⟩
  go_wp2_with fail
  refine (HLbc.out w).mono ?_
  rintro e w' ⟨rfl, rfl⟩
  go_wp2_with fail
  refine HT.out.mono ?_
  rintro e w1 ⟨rfl, b1⟩
  have HP1 := Lib.hid (HP.out.below (Nat.le_refl _) b1)
  have B1 := Lib.hid b1
  clear b1
  go_wp2_with fail
  refine (HLab.out w1).mono ?_
  rintro e w' ⟨rfl, rfl⟩
  go_wp2_with fail
  refine (HLab.out w1).mono ?_
  rintro e w' ⟨rfl, rfl⟩
  go_wp2_with fail
  refine (HLba.out w1).mono ?_
  rintro e w' ⟨rfl, rfl⟩
  go_wp2_with fail
  refine (HVa.out w1).mono ?_
  rintro e w' ⟨rfl, rfl⟩
  go_wp2_with fail
  refine (HVb.out w1).mono ?_
  rintro e w' ⟨rfl, rfl⟩
  go_wp2_with fail
  go_ret
  exact ⟨rfl, B1.out⟩
theorem order_law (a b c : Nat) (w : World) (h : Pls w) :
    Calls Tryd.prog 4 #[.float .f64 a, .float .f64 b, .float .f64 c] w fun e w' => e = .returned (.bool true) ∧ Below w.heap.size w w' := by
  have e1 : ∀ x y, K (num x) < K (num y) → ls x y = true := fun x y h => decide_eq_true h
  have e2 : ∀ x y, ¬ K (num x) < K (num y) → ls x y = false := fun x y h => decide_eq_false h
  by_cases h1 : K (num a) < K (num b)
  · by_cases h3 : K (num b) < K (num c)
    · exact order_lt a b c w h (e1 _ _ h1) (e2 _ _ (by omega)) (e1 _ _ h3) (e1 _ _ (by omega)) (lv_mono (by omega))
    · exact order_lt2 a b c w h (e1 _ _ h1) (e2 _ _ (by omega)) (e2 _ _ h3) (lv_mono (by omega))
  · by_cases h2 : K (num b) < K (num a)
    · exact order_gt a b c w h (e2 _ _ h1) (e1 _ _ h2)
    · have he : K (num a) = K (num b) := by omega
      exact order_eq a b c w h (e2 _ _ h1) (e2 _ _ h2) (ls a c) (by unfold ls; rw [he]) rfl (Nat.le_antisymm (lv_mono (by omega)) (lv_mono (by omega)))
end Go.Proofs.YtdilhbodokbnoaaDoor.EfC

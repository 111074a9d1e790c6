/-
  EffortWhole's law.
-/
import Derived.Test.YtdilhbodokbnoaaDoorEfT
import Derived.Test.YtdilhbodokbnoaaDoorFltR
namespace Go.Proofs.YtdilhbodokbnoaaDoor.EfC
open Go.RowKit Go.My Flt

theorem un_nat (n : Int) : ∃ u : Nat, IntKind.u64.wrap n = (u : Int) := by
  have : 0 ≤ IntKind.u64.wrap n := by
    simp only [IntKind.wrap, IntKind.bits, IntKind.signed]
    simp
    omega
  exact ⟨(IntKind.u64.wrap n).toNat, by omega⟩
theorem un_ten (n : Int) : ∃ k : Nat, k < 10 ∧ wrap64 ((IntKind.u64.wrap n).tmod 10) = (k : Int) := by
  obtain ⟨u, hu⟩ := un_nat n
  rw [hu]
  refine ⟨u % 10, by omega, ?_⟩
  rw [show (u : Int).tmod 10 = ((u % 10 : Nat) : Int) from rfl]
  unfold wrap64; omega
theorem r_add {x y r : Nat} (h : D.add x y = some r) (w : World) : (binOp .add 22 (.float .f64 x) (.float .f64 y)).run Tryd.prog w = .ok (.float .f64 r) w := run_float_arith w .add _ .f64 x y r h
theorem r_sub {x y r : Nat} (h : D.sub x y = some r) (w : World) : (binOp .sub 22 (.float .f64 x) (.float .f64 y)).run Tryd.prog w = .ok (.float .f64 r) w := run_float_arith w .sub _ .f64 x y r h
theorem r_div {x y r : Nat} (h : D.div x y = some r) (w : World) : (binOp .quo 22 (.float .f64 x) (.float .f64 y)).run Tryd.prog w = .ok (.float .f64 r) w := run_float_arith w .quo _ .f64 x y r h
abbrev infW : Nat := 9218868437227405312
theorem one_inf : D.div 4607182418800017408 0 = some infW := by decide
theorem neg_inf : Op.negFloat .f64 infW = 18442240474082181120 := by decide
theorem K_inf : K infW = (big : Int) := by
  unfold K
  rw [show D.read infW = .infinity false by decide]
  rfl
theorem K_ninf : K 18442240474082181120 = -(big : Int) := by
  unfold K
  rw [show D.read 18442240474082181120 = .infinity true by decide]
  rfl
theorem big_U : 9 * (U : Int) ≤ (big : Int) := by
  have h : 9 * U ≤ big := by
    have : 16 * U ≤ big := by
      rw [U_eq]
      unfold big
      rw [show (16 : Nat) = 2 ^ 4 from rfl, ← Nat.pow_add]
      exact Nat.pow_le_pow_right (by omega) (by rw [e1074_eq, e2200_eq]; omega)
    omega
  have := Int.ofNat_le.2 h
  rwa [Int.natCast_mul] at this
theorem lv_inf : lv infW = 9 := lv_hi (by rw [num_of (by decide), K_inf]; exact big_U)
theorem lv_ninf : lv 18442240474082181120 = 0 := lv_lo (by rw [num_of (by decide), K_ninf]; have := big_U; have := U_pos; omega)
theorem fin_lo {x : Nat} (hn : isNaN x = false) (h1 : 0 ≤ K x) (h2 : K x < 9 * (U : Int)) : fin x := by
  have := big_U
  have := U_pos
  exact fin_of_K hn (by omega) (by omega)
theorem fin_20 {x : Nat} (hn : isNaN x = false) (h1 : 0 ≤ K x) (h2 : K x < 16 * (U : Int)) : fin x := by
  have hb : 16 * (U : Int) ≤ (big : Int) := by
    have h : 16 * U ≤ big := by
      rw [U_eq]
      unfold big
      rw [show (16 : Nat) = 2 ^ 4 from rfl, ← Nat.pow_add]
      exact Nat.pow_le_pow_right (by omega) (by rw [e1074_eq, e2200_eq]; omega)
    have := Int.ofNat_le.2 h
    rwa [Int.natCast_mul] at this
  have := U_pos
  exact fin_of_K hn (by omega) (by omega)
/-- What the law asks of its number: from k up to k + 1. -/
structure Mid (k x : Nat) : Prop where
  num : isNaN x = false
  lo : (k : Int) * (U : Int) ≤ K x
  hi : K x < ((k : Int) + 1) * (U : Int)
theorem Mid.level {k x : Nat} (h : Mid k x) (hk : k < 10) : lv x = k := by
  by_cases h9 : k = 9
  · subst h9
    exact lv_hi (by rw [num_of h.num]; exact h.lo)
  · exact lv_at (by omega) (by rw [num_of h.num]; exact h.lo) (by rw [num_of h.num]; exact h.hi)
theorem Mid.fin {k x : Nat} (h : Mid k x) (hk : k < 10) : fin x := by
  have hU := U_pos
  have a1 : 0 ≤ (k : Int) * (U : Int) := Int.mul_nonneg (by omega) (by omega)
  have a2 : ((k : Int) + 1) * (U : Int) ≤ 16 * (U : Int) := Int.mul_le_mul_of_nonneg_right (by omega) (by omega)
  have := h.lo
  have := h.hi
  exact fin_20 h.num (by omega) (by omega)
theorem Mid.neg {k x : Nat} (h : Mid k x) : lv (Op.negFloat .f64 x) = 0 := by
  have hn := neg_num x h.num
  have hU := U_pos
  have a1 : 0 ≤ (k : Int) * (U : Int) := Int.mul_nonneg (by omega) (by omega)
  have := h.lo
  exact lv_lo (by rw [num_of hn.1, hn.2]; omega)
theorem Mid.more {k x : Nat} (h : Mid k x) (hk : k < 10) : ∃ r, D.add 4621256167635550208 x = some r ∧ lv r = 9 := by
  have h9 := K_9
  have hU := U_pos
  obtain ⟨r, hr, hn, h1, h2⟩ := add_between 4621256167635550208 x (9 + k) (by rw [← k_9]; exact fin_fl _ (by decide)) (h.fin hk) (by omega)
    (by rw [h9]; have := h.lo; push_cast; rw [Int.add_mul]; omega)
    (by rw [h9]; have := h.hi; push_cast; rw [Int.add_mul, Int.add_mul]; rw [Int.add_mul] at this; omega)
  refine ⟨r, hr, lv_hi ?_⟩
  rw [num_of hn]
  have a1 : 0 ≤ (k : Int) * (U : Int) := Int.mul_nonneg (by omega) (by omega)
  push_cast at h1
  rw [Int.add_mul] at h1
  omega
/-- k and a part of 1: what float64(k) + part is. -/
theorem sum_part (k p : Nat) (hk : k < 10) (hn : isNaN p = false) (h1 : 0 ≤ K p) (h2 : K p < (U : Int)) :
    ∃ r, D.add (fl (512 * (k : Int))) p = some r ∧
      ((FloatKind.f64.format.order r (fl (512 * ((k : Int) + 1))) == some .gt || FloatKind.f64.format.order r (fl (512 * ((k : Int) + 1))) == some .eq) = true ∨
       (FloatKind.f64.format.order r (fl (512 * ((k : Int) + 1))) == some .gt || FloatKind.f64.format.order r (fl (512 * ((k : Int) + 1))) == some .eq) = false ∧ Mid k r) := by
  have hU := U_pos
  have hK := K_whole (k : Int) (by omega)
  have hK1 := K_whole ((k : Int) + 1) (by omega)
  obtain ⟨r, hr, hrn, a1, a2⟩ := add_between (fl (512 * (k : Int))) p k (fin_fl _ (by omega)) (fin_lo hn h1 (by omega)) (by omega)
    (by rw [hK]; omega) (by rw [hK, Int.add_mul]; omega)
  refine ⟨r, hr, ?_⟩
  rw [f_ge, hrn, isNaN_fl _ (by omega), hK1]
  by_cases h : ((k : Int) + 1) * (U : Int) ≤ K r
  · left; rw [decide_eq_true h]; rfl
  · right; rw [decide_eq_false h]; exact ⟨rfl, hrn, a1, by omega⟩
theorem Mid.whole (k : Nat) (hk : k < 10) : Mid k (fl (512 * (k : Int))) := by
  have hU := U_pos
  have hK := K_whole (k : Int) (by omega)
  exact ⟨isNaN_fl _ (by omega), by rw [hK]; omega, by rw [hK, Int.add_mul]; omega⟩

theorem nought (k : Nat) : (decide (k = 0) == ((k : Int) == 0)) = true := by by_cases h : k = 0 <;> simp [h]
set_option maxRecDepth 100000 in
theorem whole_way (n : Int) (k p q r x : Nat) (w : World) (h : Pls w) (hk : k < 10) (hkn : wrap64 ((IntKind.u64.wrap n).tmod 10) = (k : Int))
    (hway : ((FloatKind.f64.format.order p 0 == some .gt || FloatKind.f64.format.order p 0 == some .eq) = true ∧ (FloatKind.f64.format.order p 4607182418800017408 == some .lt) = true ∧ q = p) ∨
      ((FloatKind.f64.format.order p 0 == some .gt || FloatKind.f64.format.order p 0 == some .eq) = false ∧ q = 0) ∨
      ((FloatKind.f64.format.order p 0 == some .gt || FloatKind.f64.format.order p 0 == some .eq) = true ∧ (FloatKind.f64.format.order p 4607182418800017408 == some .lt) = false ∧ q = 0))
    (hadd : D.add (fl (512 * (k : Int))) q = some r) (hq : fin q)
    (hge : ((FloatKind.f64.format.order r (fl (512 * ((k : Int) + 1))) == some .gt || FloatKind.f64.format.order r (fl (512 * ((k : Int) + 1))) == some .eq) = true ∧ x = fl (512 * (k : Int))) ∨
      ((FloatKind.f64.format.order r (fl (512 * ((k : Int) + 1))) == some .gt || FloatKind.f64.format.order r (fl (512 * ((k : Int) + 1))) == some .eq) = false ∧ x = r))
    (hx : Mid k x) :
    Calls Tryd.prog 5 #[.int .i64 n, .float .f64 p] w fun e w' => e = .returned (.bool true) ∧ Below w.heap.size w w' := by
  have HP := Lib.hid h
  have HT := Lib.hid (told_any w h)
  clear h
  have HVI := Lib.hid (fun w => level_any infW w)
  have HVN := Lib.hid (fun w => level_any 18442240474082181120 w)
  have HVX := Lib.hid (fun w => level_any x w)
  have HVM := Lib.hid (fun w => level_any (Op.negFloat .f64 x) w)
  have HPX := Lib.hid (fun w => plan_any x w)
  rw [lv_inf] at HVI
  rw [lv_ninf] at HVN
  rw [hx.level hk] at HVX HPX
  rw [hx.neg] at HVM
  obtain ⟨z, hz, hlz⟩ := hx.more hk
  have HVZ := Lib.hid (fun w => level_any z w)
  rw [hlz] at HVZ
  simp only [pl, pv] at HPX
  have hf0 : floatOfInt .f64 (k : Int) = fl (512 * (k : Int)) := floatOfInt_fl k (by omega)
  have hf1 : floatOfInt .f64 ((k : Int) + 1) = fl (512 * ((k : Int) + 1)) := floatOfInt_fl _ (by omega)
  have hst : st k = decide ((k : Int) = 0) := by
    unfold st
    rw [Bool.eq_iff_iff]; simp
  rw [hst] at HPX
  clear hst
  generalize ch k = C at *
  generalize lz k = Z at *
  generalize gd k = G at *
  have f0 := fld0
  have a1 := r_add hadd
  have a2 := r_sub (sub_self q hq)
  have a3 := r_div one_inf
  have a4 : ∀ w, (Op.unary .neg (.float .f64 infW)).run Tryd.prog w = .ok (.float .f64 18442240474082181120) w := fun w => by rw [← neg_inf]; rfl
  have a5 : ∀ w, (Op.unary .neg (.float .f64 x)).run Tryd.prog w = .ok (.float .f64 (Op.negFloat .f64 x)) w := fun w => rfl
  have a6 := r_add hz
  clear hadd hz hlz hq hx
  generalize fl (512 * (k : Int)) = y at *
  generalize fl (512 * ((k : Int) + 1)) = y1 at *
  generalize Op.negFloat .f64 x = m at *
  rcases hway with ⟨e1, e2, rfl⟩ | ⟨e1, rfl⟩ | ⟨e1, e2, rfl⟩ <;> rcases hge with ⟨e3, rfl⟩ | ⟨e3, rfl⟩
  all_goals
    go_enter Tryd.func5, Tryd.ntmps5
    go_wp2_with fail
    refine HT.out.mono ?_
    rintro e w1 ⟨rfl, b1⟩
    have HP1 := Lib.hid (HP.out.below (Nat.le_refl _) b1)
    have B1 := Lib.hid b1
    clear b1
    go_wp2_with fail
    refine (HVX.out w1).mono ?_
    rintro e w' ⟨rfl, rfl⟩
    go_wp2_with fail
    refine (HVI.out w1).mono ?_
    rintro e w' ⟨rfl, rfl⟩
    go_wp2_with fail
    refine (HVN.out w1).mono ?_
    rintro e w' ⟨rfl, rfl⟩
    go_wp2_with fail
    refine (HVM.out w1).mono ?_
    rintro e w' ⟨rfl, rfl⟩
    go_wp2_with fail
    refine (HVZ.out w1).mono ?_
    rintro e w' ⟨rfl, rfl⟩
    go_wp2_with fail
    refine (HPX.out w1 HP1.out).mono ?_
    rintro e w2 ⟨rfl, b2⟩
    have B2 := Lib.hid (B1.out.trans (b2.mono B1.out.size))
    clear b2
    go_wp2_with fail
    go_ret
    exact ⟨congrArg (fun b => Ending.returned (.bool b)) (nought k), B2.out⟩
theorem whole_law (n : Int) (p : Nat) (w : World) (h : Pls w) :
    Calls Tryd.prog 5 #[.int .i64 n, .float .f64 p] w fun e w' => e = .returned (.bool true) ∧ Below w.heap.size w w' := by
  obtain ⟨k, hk, hkn⟩ := un_ten n
  have e0 : (FloatKind.f64.format.order p 0 == some .gt || FloatKind.f64.format.order p 0 == some .eq) = (!isNaN p && decide (0 ≤ K p)) := by rw [f_ge, n_0, K_0]; simp
  have e1 : (FloatKind.f64.format.order p 4607182418800017408 == some .lt) = (!isNaN p && decide (K p < (U : Int))) := by rw [f_lt, n_1, K_1]; simp
  have hU := U_pos
  obtain ⟨q, hq1, hq2, hq3, hway⟩ : ∃ q, isNaN q = false ∧ 0 ≤ K q ∧ K q < (U : Int) ∧
      (((FloatKind.f64.format.order p 0 == some .gt || FloatKind.f64.format.order p 0 == some .eq) = true ∧ (FloatKind.f64.format.order p 4607182418800017408 == some .lt) = true ∧ q = p) ∨
      ((FloatKind.f64.format.order p 0 == some .gt || FloatKind.f64.format.order p 0 == some .eq) = false ∧ q = 0) ∨
      ((FloatKind.f64.format.order p 0 == some .gt || FloatKind.f64.format.order p 0 == some .eq) = true ∧ (FloatKind.f64.format.order p 4607182418800017408 == some .lt) = false ∧ q = 0)) := by
    rw [e0, e1]
    have hz : isNaN 0 = false ∧ 0 ≤ K 0 ∧ K 0 < (U : Int) := by rw [K_0]; exact ⟨n_0, by omega, hU⟩
    cases hn : isNaN p
    · by_cases h1 : 0 ≤ K p
      · by_cases h2 : K p < (U : Int)
        · exact ⟨p, hn, h1, h2, .inl ⟨by simp [h1], by simp [h2], rfl⟩⟩
        · exact ⟨0, hz.1, hz.2.1, hz.2.2, .inr (.inr ⟨by simp [h1], by simp; omega, rfl⟩)⟩
      · exact ⟨0, hz.1, hz.2.1, hz.2.2, .inr (.inl ⟨by simp; omega, rfl⟩)⟩
    · exact ⟨0, hz.1, hz.2.1, hz.2.2, .inr (.inl ⟨by simp, rfl⟩)⟩
  obtain ⟨r, hr, hge⟩ := sum_part k q hk hq1 hq2 hq3
  have hf := fin_lo hq1 hq2 (by omega)
  rcases hge with h3 | ⟨h3, h4⟩
  · exact whole_way n k p q r _ w h hk hkn hway hr hf (.inl ⟨h3, rfl⟩) (Mid.whole k hk)
  · exact whole_way n k p q r _ w h hk hkn hway hr hf (.inr ⟨h3, rfl⟩) h4
end Go.Proofs.YtdilhbodokbnoaaDoor.EfC

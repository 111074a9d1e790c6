/-
  Layer 15's law: what its packages tell of a few.
-/
import Derived.Test.YtdilhbodokbnoaaDoorEfB
namespace Go.Proofs.YtdilhbodokbnoaaDoor.EfC
open Go.RowKit Go.My Flt

theorem gt_of {x y : Nat} (h : (FloatKind.f64.format.order x y == some .gt) = true) : K y < K x := by
  rw [f_gt] at h
  simp at h
  exact h.2
theorem k_5 : fl (512 * 5) = 4617315517961601024 := by decide +kernel
theorem K_5 : K 4617315517961601024 = 5 * (U : Int) := by rw [← k_5, K_whole _ (by decide)]
theorem lv_nan {x : Nat} (h : isNaN x = true) : lv x = 6 := lv_at (n := 6) (by omega) (by rw [num_six h, K_6]; simp) (by rw [num_six h, K_6]; have := U_pos; simp; omega)
theorem lv_599 : lv 4618430158869375222 = 5 := by
  have hn : isNaN 4618430158869375222 = false := by decide
  have h1 : K 4617315517961601024 < K 4618430158869375222 := gt_of (by decide)
  have h2 : K 4618430158869375222 < K 4618441417868443648 := gt_of (by decide)
  rw [K_5] at h1
  rw [K_6] at h2
  exact lv_at (n := 5) (by omega) (by rw [num_of hn]; simp; omega) (by rw [num_of hn]; simp; omega)
theorem lv_0 : lv 0 = 0 := lv_lo (by rw [num_of n_0, K_0]; exact U_pos)
theorem ls_12 : ls 4607182418800017408 4611686018427387904 = true := by
  rw [← lt_num, num_of n_1, num_of (by decide)]
  decide
set_option maxRecDepth 100000 in
theorem told_any (w : World) (h : Pls w) :
    Calls Tryd.prog 6 #[] w fun e w' => e = .returned (.bool true) ∧ Below w.heap.size w w' := by
  have HP := Lib.hid h
  clear h
  go_enter Tryd.func6, Tryd.ntmps6
  go_wp2_with fail
  refine (none_any w).mono ?_
  rintro e w1 ⟨⟨r, rfl, hn⟩, b1⟩
  have HV := Lib.hid (fun w => level_any r w)
  rw [lv_nan hn] at HV
  clear hn
  go_wp2_with fail
  refine (HV.out w1).mono ?_
  rintro e w2 ⟨rfl, rfl⟩
  clear HV
  have HV := Lib.hid (fun w => level_any 4618430158869375222 w)
  rw [lv_599] at HV
  go_wp2_with fail
  refine (HV.out w1).mono ?_
  rintro e w2 ⟨rfl, rfl⟩
  clear HV
  have HV := Lib.hid (plan_any 0 w1 (HP.out.below (Nat.le_refl _) b1))
  rw [lv_0, show pl 0 = .agg #[.bool true, .int .i64 0, .bool false, .int .i64 0] from rfl] at HV
  go_wp2_with fail
  refine HV.out.mono ?_
  rintro e w2 ⟨rfl, b2⟩
  have B2 := Lib.hid (b1.trans (b2.mono b1.size))
  clear HV b1 b2
  have HV := Lib.hid (less_any 4607182418800017408 4611686018427387904 w2)
  rw [ls_12] at HV
  go_wp2_with fail
  refine HV.out.mono ?_
  rintro e w3 ⟨rfl, rfl⟩
  go_wp2_with fail
  go_ret
  exact ⟨rfl, B2.out⟩
end Go.Proofs.YtdilhbodokbnoaaDoor.EfC

/-
  EffortPlans' law.
-/
import Derived.Test.YtdilhbodokbnoaaDoorEfT
namespace Go.Proofs.YtdilhbodokbnoaaDoor.EfC
open Go.RowKit Go.My Flt
set_option maxRecDepth 100000 in
theorem plans_law (a b : Nat) (w : World) (h : Pls w) :
    Calls Tryd.prog 3 #[.float .f64 a, .float .f64 b] w fun e w' => e = .returned (.bool true) ∧ Below w.heap.size w w' := by
  have HP := Lib.hid h
  have HT := Lib.hid (told_any w h)
  have HV := Lib.hid (fun w => level_any a w)
  have HR := Lib.hid (fun w => rlevel_any a w)
  have HG := Lib.hid (fun w => plan_any a w)
  have HS := Lib.hid (fun w => rplan_any a w)
  have HL := Lib.hid (fun w => less_any a b w)
  have HM := Lib.hid (fun w => rless_any a b w)
  simp only [pl, pv] at HG HS
  generalize lv a = L at *
  generalize ls a b = r at *
  generalize st L = S at *
  generalize ch L = C at *
  generalize lz L = Z at *
  generalize gd L = G at *
  clear h
  go_enter Tryd.func3, Tryd.ntmps3
  go_wp2_with fail
  refine HT.out.mono ?_
  rintro e w1 ⟨rfl, b1⟩
  go_wp2_with fail
  refine (HV.out w1).mono ?_
  rintro e w2 ⟨rfl, rfl⟩
  go_wp2_with fail
  refine (HR.out w1).mono ?_
  rintro e w2 ⟨rfl, rfl⟩
  have HP1 := Lib.hid (HP.out.below (Nat.le_refl _) b1)
  go_wp2_with fail
  refine (HG.out w1 HP1.out).mono ?_
  rintro e w2 ⟨rfl, b2⟩
  have B2 := b1.trans (b2.mono b1.size)
  clear b1 b2
  go_wp2_with fail
  refine (HS.out w2).mono ?_
  rintro e w3 ⟨rfl, b3⟩
  have B3 := B2.trans (b3.mono B2.size)
  clear B2 b3
  go_wp2_with fail
  refine (HL.out w3).mono ?_
  rintro e w4 ⟨rfl, rfl⟩
  go_wp2_with fail
  refine (HM.out w3).mono ?_
  rintro e w4 ⟨rfl, rfl⟩
  go_wp2_with fail
  go_ret
  exact ⟨rfl, B3⟩
end Go.Proofs.YtdilhbodokbnoaaDoor.EfC

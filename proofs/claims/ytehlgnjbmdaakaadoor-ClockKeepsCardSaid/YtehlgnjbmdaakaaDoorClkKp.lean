import Derived.Test.YtehlgnjbmdaakaaDoorClkH
import Derived.Test.YtehlgnjbmdaakaaDoorClkV
import Derived.Test.YtehlgnjbmdaakaaDoorClkX
import Derived.Test.YtehlgnjbmdaakaaDoorClkTx2
namespace Go.Proofs.YtehlgnjbmdaakaaDoor.ClkC
open Go.RowKit Go.My Flt NumMath Txt Clk

set_option maxRecDepth 100000 in
set_option maxHeartbeats 16000000 in
theorem keeps_walk (t f u d x u1 : Nat) (n n2 k k2 v : Int) (tb : ByteArray) (w : World) (HPW : Hid (Pow w))
    (HF : Hid (∀ w, Calls Tryd.prog 21 #[.float .f64 t] w fun e w' => e = .returned (.float .f64 f) ∧ w = w'))
    (HT : Hid (∀ w, Pow w → Calls Tryd.prog 23 #[.float .f64 t] w fun e w' => e = .returned (.string tb) ∧ Below w.heap.size w w'))
    (HP : Hid (∀ w, Calls Tryd.prog 18 #[.string tb] w fun e w' => e = .returned (.tuple #[.float .f64 f, .int .i64 0]) ∧ Below w.heap.size w w'))
    (HFF : Hid (∀ w, Calls Tryd.prog 21 #[.float .f64 f] w fun e w' => e = .returned (.float .f64 f) ∧ w = w'))
    (HSf : Hid (∀ w, Calls Tryd.prog 20 #[.float .f64 f, .float .f64 f] w fun e w' => e = .returned (.bool true) ∧ w = w'))
    (HU : Hid (∀ w, Calls Tryd.prog 26 #[.float .f64 t] w fun e w' => e = .returned (.int .i64 n) ∧ w = w'))
    (HUf : Hid (∀ w, Calls Tryd.prog 25 #[.int .i64 n] w fun e w' => e = .returned (.float .f64 u) ∧ w = w'))
    (HUU : Hid (∀ w, Calls Tryd.prog 26 #[.float .f64 u] w fun e w' => e = .returned (.int .i64 n2) ∧ w = w'))
    (HUUf : Hid (∀ w, Calls Tryd.prog 25 #[.int .i64 n2] w fun e w' => e = .returned (.float .f64 u) ∧ w = w'))
    (HSu : Hid (∀ w, Calls Tryd.prog 20 #[.float .f64 u, .float .f64 u] w fun e w' => e = .returned (.bool true) ∧ w = w'))
    (HD : Hid (∀ w, Calls Tryd.prog 28 #[.float .f64 t] w fun e w' => e = .returned (.int .i64 k) ∧ Below w.heap.size w w'))
    (HDf : Hid (∀ w, Calls Tryd.prog 27 #[.int .i64 k] w fun e w' => e = .returned (.float .f64 d) ∧ Below w.heap.size w w'))
    (HDD : Hid (∀ w, Calls Tryd.prog 28 #[.float .f64 d] w fun e w' => e = .returned (.int .i64 k2) ∧ Below w.heap.size w w'))
    (HDDf : Hid (∀ w, Calls Tryd.prog 27 #[.int .i64 k2] w fun e w' => e = .returned (.float .f64 d) ∧ Below w.heap.size w w'))
    (HSd : Hid (∀ w, Calls Tryd.prog 20 #[.float .f64 d, .float .f64 d] w fun e w' => e = .returned (.bool true) ∧ w = w'))
    (HW : Hid (∀ w, Calls Tryd.prog 27 #[.int .i64 v] w fun e w' => e = .returned (.float .f64 x) ∧ Below w.heap.size w w'))
    (hff : (FloatKind.f64.format.order f f != some .eq) = false)
    (hC : ((FloatKind.f64.format.order f t == some .gt) = false ∧ (FloatKind.f64.format.order u u == some .eq) = false ∧ (FloatKind.f64.format.order d d == some .eq) = false ∧ (FloatKind.f64.format.order t t == some .eq) = false ∧ (FloatKind.f64.format.order t t != some .eq) = true) ∨
      (((FloatKind.f64.format.order f t == some .gt) = false ∨ ((FloatKind.f64.format.order f t == some .gt) = true ∧ (FloatKind.f64.format.order t 13979173243358019584 == some .gt || FloatKind.f64.format.order t 13979173243358019584 == some .eq) = false)) ∧ ((FloatKind.f64.format.order u u == some .eq) = false ∨
      ((FloatKind.f64.format.order u u == some .eq) = true ∧ (FloatKind.f64.format.order u t == some .gt) = false ∧ (∀ w, (binOp .add 32 (.float .f64 u) (.float .f64 4607182418800017408)).run Tryd.prog w = .ok (.float .f64 u1) w) ∧
        ((FloatKind.f64.format.order u1 t == some .lt || FloatKind.f64.format.order u1 t == some .eq) = false ∨ ((FloatKind.f64.format.order u1 t == some .lt || FloatKind.f64.format.order u1 t == some .eq) = true ∧ (FloatKind.f64.format.order t 4751297606873776128 == some .lt) = false)))) ∧ (FloatKind.f64.format.order d d == some .eq) = true ∧ (FloatKind.f64.format.order t t == some .eq) = true ∧ (FloatKind.f64.format.order t t != some .eq) = false ∧
        (FloatKind.f64.format.order d 4734073370679705600 == some .gt || FloatKind.f64.format.order d 4734073370679705600 == some .eq) = true ∧ (FloatKind.f64.format.order d 4751360366145961984 == some .lt) = true))
    (hD : (FloatKind.f64.format.order x x != some .eq) = true ∨ ((FloatKind.f64.format.order x x != some .eq) = false ∧ Hid (∀ w, Calls Tryd.prog 28 #[.float .f64 x] w fun e w' => e = .returned (.int .i64 v) ∧ Below w.heap.size w w'))) :
    Calls Tryd.prog 6 #[.float .f64 t, .int .i64 v] w fun e w' => e = .returned (.bool true) ∧ Below w.heap.size w w' := by
  rcases hC with ⟨hA, hB, hC, hC2, hC3⟩ | ⟨hA | ⟨hA, hA2⟩, hB | ⟨hB, hB2, hB3, hB4 | ⟨hB4, hB5⟩⟩, hC, hC2, hC3, hC4, hC5⟩ <;> rcases hD with hD | ⟨hD, HWD⟩
  all_goals
    go_enter Tryd.func6, Tryd.ntmps6
    go_wp2_with fail
    refine (HF.out w).mono ?_
    rintro e w' ⟨rfl, rfl⟩
    go_wp2_with fail
    refine (HT.out w HPW.out).mono ?_
    rintro e w1 ⟨rfl, b1⟩
    go_wp2_with fail
    refine (HP.out w1).mono ?_
    rintro e w2 ⟨rfl, b2⟩
    have B2 := b1.trans (b2.mono b1.size)
    clear b1 b2
    go_wp2_with fail
    refine (HFF.out w2).mono ?_
    rintro e w' ⟨rfl, rfl⟩
    go_wp2_with fail
    refine (HSf.out w2).mono ?_
    rintro e w' ⟨rfl, rfl⟩
    go_wp2_with fail
    refine (HSf.out w2).mono ?_
    rintro e w' ⟨rfl, rfl⟩
    go_wp2_with fail
    refine (HU.out w2).mono ?_
    rintro e w' ⟨rfl, rfl⟩
    go_wp2_with fail
    refine (HUf.out w2).mono ?_
    rintro e w' ⟨rfl, rfl⟩
    go_wp2_with fail
    refine (HUU.out w2).mono ?_
    rintro e w' ⟨rfl, rfl⟩
    go_wp2_with fail
    refine (HUUf.out w2).mono ?_
    rintro e w' ⟨rfl, rfl⟩
    go_wp2_with fail
    refine (HSu.out w2).mono ?_
    rintro e w' ⟨rfl, rfl⟩
    go_wp2_with fail
    refine (HD.out w2).mono ?_
    rintro e w3 ⟨rfl, b3⟩
    have B3 := B2.trans (b3.mono B2.size)
    clear B2 b3
    go_wp2_with fail
    refine (HDf.out w3).mono ?_
    rintro e w4 ⟨rfl, b4⟩
    have B4 := B3.trans (b4.mono B3.size)
    clear B3 b4
    go_wp2_with fail
    refine (HDD.out w4).mono ?_
    rintro e w5 ⟨rfl, b5⟩
    have B5 := B4.trans (b5.mono B4.size)
    clear B4 b5
    go_wp2_with fail
    refine (HDDf.out w5).mono ?_
    rintro e w6 ⟨rfl, b6⟩
    have B6 := B5.trans (b6.mono B5.size)
    clear B5 b6
    go_wp2_with fail
    refine (HSd.out w6).mono ?_
    rintro e w' ⟨rfl, rfl⟩
    go_wp2_with fail
    refine (HW.out w6).mono ?_
    rintro e w7 ⟨rfl, b7⟩
    have B7 := B6.trans (b7.mono B6.size)
    clear B6 b7
    go_wp2_with fail
    refine (told_any w7 (HPW.out.below B7)).mono ?_
    rintro e w8 ⟨rfl, b8⟩
    have B8 := B7.trans (b8.mono B7.size)
    clear B7 b8
    go_wp2_with fail
    first
      | (go_ret
         exact ⟨rfl, B8⟩)
      | (refine (HWD.out w8).mono ?_
         rintro e w9 ⟨rfl, b9⟩
         have B9 := B8.trans (b9.mono B8.size)
         clear B8 b9
         go_wp2_with fail
         go_ret
         exact ⟨rfl, B9⟩)
end Go.Proofs.YtehlgnjbmdaakaaDoor.ClkC

/-
  PathOrder's law.
-/
import Derived.Test.YtkimmabndmceoaaDoorPaT
namespace Go.Proofs.YtkimmabndmceoaaDoor.PaC
open Go.RowKit Go.My PaMath

/-- Is a ahead of b? -/
def ahead (a b : ByteArray) : Bool := lts (key (lst a)) (key (lst b))
theorem ahead_irr (a : ByteArray) : ahead a a = false := lts_irr _
theorem ahead_trans {a b c : ByteArray} (h : ahead a b = true) (k : ahead b c = true) : ahead a c = true := lts_trans h k
theorem ahead_asym {a b : ByteArray} (h : ahead a b = true) : ahead b a = false := lts_asym h
theorem less_ah (a b : ByteArray) (ha : a.size ≤ 1000000) (hb : b.size ≤ 1000000) (w : World) :
    Calls Tryd.prog 18 #[.string a, .string b] w fun e w' => e = .returned (.bool (ahead a b)) ∧ Below w.heap.size w w' := less_any a b ha hb w
theorem rless_ah (a b : ByteArray) (ha : a.size ≤ 1000000) (hb : b.size ≤ 1000000) (w : World) :
    Calls Tryd.prog 19 #[.string a, .string b] w fun e w' => e = .returned (.bool (ahead a b)) ∧ Below w.heap.size w w' := rless_any a b ha hb w
set_option maxRecDepth 100000 in
set_option maxHeartbeats 4000000 in
theorem order_law (a b c : ByteArray) (w : World) :
    Calls Tryd.prog 4 #[.string a, .string b, .string c] w fun e w' => e = .returned (.bool true) ∧ Below w.heap.size w w' := by
  by_cases hbig : 100 < a.size ∨ 100 < b.size ∨ 100 < c.size
  · by_cases ha : 100 < a.size
    · go_enter Tryd.func4, Tryd.ntmps4
      go_wp2_with fail
      refine (told_any w).mono ?_
      rintro e w1 ⟨rfl, hb⟩
      go_wp2_with fail
      go_ret
      exact ⟨rfl, hb⟩
    by_cases hb : 100 < b.size
    · clear hbig
      go_enter Tryd.func4, Tryd.ntmps4
      go_wp2_with fail
      refine (told_any w).mono ?_
      rintro e w1 ⟨rfl, hb⟩
      go_wp2_with fail
      go_ret
      exact ⟨rfl, hb⟩
    have hc : 100 < c.size := by omega
    clear hbig
    go_enter Tryd.func4, Tryd.ntmps4
    go_wp2_with fail
    refine (told_any w).mono ?_
    rintro e w1 ⟨rfl, hb⟩
    go_wp2_with fail
    go_ret
    exact ⟨rfl, hb⟩
  have ha : ¬ 100 < a.size := fun h => hbig (.inl h)
  have hb : ¬ 100 < b.size := fun h => hbig (.inr (.inl h))
  have hc : ¬ 100 < c.size := fun h => hbig (.inr (.inr h))
  clear hbig
  go_enter Tryd.func4, Tryd.ntmps4
  go_wp2_with fail
  refine (less_ah a b (by omega) (by omega) w).mono ?_
  rintro e w1 ⟨rfl, b1⟩
  have B1 := Lib.hid b1
  clear b1
  go_wp2_with fail
  refine (rless_ah a b (by omega) (by omega) w1).mono ?_
  rintro e w2 ⟨rfl, b2⟩
  have B2 := Lib.hid (B1.out.trans (b2.mono B1.out.size))
  clear b2
  have x1 : (ahead a b != ahead a b) = false := by simp
  go_wp2_with fail
  refine (less_ah a a (by omega) (by omega) w2).mono ?_
  rintro e w3 ⟨rfl, b3⟩
  have B3 := Lib.hid (B2.out.trans (b3.mono B2.out.size))
  clear b3
  rw [ahead_irr]
  go_wp2_with fail
  refine (less_ah a b (by omega) (by omega) w3).mono ?_
  rintro e w4 ⟨rfl, b4⟩
  have B4 := Lib.hid (B3.out.trans (b4.mono B3.out.size))
  clear b4
  cases hab : ahead a b
  · go_wp2_with fail
    refine (told_any w4).mono ?_
    rintro e w5 ⟨rfl, b5⟩
    have B5 := Lib.hid (B4.out.trans (b5.mono B4.out.size))
    clear b5
    go_wp2_with fail
    refine (less_ah a b (by omega) (by omega) w5).mono ?_
    rintro e w6 ⟨rfl, b6⟩
    have B6 := Lib.hid (B5.out.trans (b6.mono B5.out.size))
    clear b6
    rw [hab]
    go_wp2_with fail
    go_ret
    exact ⟨rfl, B6.out⟩
  have hba := ahead_asym hab
  have HBA := Lib.hid hba
  have HAB := Lib.hid hab
  clear hba hab
  cases hbc : ahead b c
  · have HBC := Lib.hid hbc
    clear hbc
    go_wp2_with fail
    refine (less_ah b c (by omega) (by omega) w4).mono ?_
    rintro e w5 ⟨rfl, b5⟩
    have B5 := Lib.hid (B4.out.trans (b5.mono B4.out.size))
    clear b5
    rw [HBC.out]
    go_wp2_with fail
    refine (told_any w5).mono ?_
    rintro e w6 ⟨rfl, b6⟩
    have B6 := Lib.hid (B5.out.trans (b6.mono B5.out.size))
    clear b6
    go_wp2_with fail
    refine (less_ah a b (by omega) (by omega) w6).mono ?_
    rintro e w7 ⟨rfl, b7⟩
    have B7 := Lib.hid (B6.out.trans (b7.mono B6.out.size))
    clear b7
    rw [HAB.out]
    go_wp2_with fail
    refine (less_ah b a (by omega) (by omega) w7).mono ?_
    rintro e w8 ⟨rfl, b8⟩
    have B8 := Lib.hid (B7.out.trans (b8.mono B7.out.size))
    clear b8
    rw [HBA.out]
    go_wp2_with fail
    go_ret
    exact ⟨rfl, B8.out⟩
  have HAC := Lib.hid (ahead_trans HAB.out hbc)
  have HBC := Lib.hid hbc
  clear hbc
  go_wp2_with fail
  refine (less_ah b c (by omega) (by omega) w4).mono ?_
  rintro e w5 ⟨rfl, b5⟩
  have B5 := Lib.hid (B4.out.trans (b5.mono B4.out.size))
  clear b5
  rw [HBC.out]
  go_wp2_with fail
  refine (less_ah a c (by omega) (by omega) w5).mono ?_
  rintro e w6 ⟨rfl, b6⟩
  have B6 := Lib.hid (B5.out.trans (b6.mono B5.out.size))
  clear b6
  rw [HAC.out]
  go_wp2_with fail
  refine (told_any w6).mono ?_
  rintro e w7 ⟨rfl, b7⟩
  have B7 := Lib.hid (B6.out.trans (b7.mono B6.out.size))
  clear b7
  go_wp2_with fail
  refine (less_ah a b (by omega) (by omega) w7).mono ?_
  rintro e w8 ⟨rfl, b8⟩
  have B8 := Lib.hid (B7.out.trans (b8.mono B7.out.size))
  clear b8
  rw [HAB.out]
  go_wp2_with fail
  refine (less_ah b a (by omega) (by omega) w8).mono ?_
  rintro e w9 ⟨rfl, b9⟩
  have B9 := Lib.hid (B8.out.trans (b9.mono B8.out.size))
  clear b9
  rw [HBA.out]
  go_wp2_with fail
  go_ret
  exact ⟨rfl, B9.out⟩
end Go.Proofs.YtkimmabndmceoaaDoor.PaC

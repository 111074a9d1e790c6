import Derived.Test.YthjlemglfgamnaaDoorNumZ
namespace Go.Proofs.YthjlemglfgamnaaDoor.NumC
open Go.RowKit Go.My NumMath

set_option maxRecDepth 100000 in
set_option maxHeartbeats 2000000 in
theorem octal_law (s : ByteArray) (v n : Int) (w : World) (hT : Tab w) :
    Calls Tryd.prog 4 #[.string s, .int .i64 v, .int .i64 n] w fun e w' => e = .returned (.bool true) ∧ Below w.heap.size w w' := by
  have HT := Lib.hid hT
  clear hT
  by_cases h : 100 < s.size
  · go_enter Tryd.func4, Tryd.ntmps4
    go_wp2_with fail
    refine (told_any w HT.out).mono ?_
    rintro e w1 ⟨rfl, b1⟩
    go_wp2_with fail
    go_ret
    exact ⟨rfl, b1⟩
  have h100 : s.size ≤ 100 := by omega
  clear h
  go_enter Tryd.func4, Tryd.ntmps4
  go_wp2_with fail
  refine (octal_any s w (by omega)).mono ?_
  rintro e w1 ⟨rfl, b1⟩
  go_wp2_with fail
  refine (refoctal_any s w1 (by omega)).mono ?_
  rintro e w2 ⟨rfl, rfl⟩
  generalize octV s.data.toList = ov at *
  generalize octE s.data.toList = oe at *
  have HT1 := Lib.hid (HT.out.below (Nat.le_refl _) b1)
  go_wp2_with fail
  refine (putoctal_all v n w1 HT1.out).mono ?_
  rintro e w2 ⟨rfl, b2⟩
  have HT2 := Lib.hid (HT1.out.below (Nat.le_refl _) b2)
  have B2 := Lib.hid (b1.trans (b2.mono b1.size))
  clear b1 b2
  go_wp2_with fail
  refine (refputoctal_all v n w2).mono ?_
  rintro e w3 ⟨rfl, b3⟩
  have HT3 := Lib.hid (HT2.out.below (Nat.le_refl _) b3)
  have B3 := Lib.hid (B2.out.trans (b3.mono B2.out.size))
  clear b3
  generalize pS v n = ps at *
  generalize pE v n = pe at *
  go_wp2_with fail
  refine (told_any w3 HT3.out).mono ?_
  rintro e w4 ⟨rfl, b4⟩
  go_wp2_with fail
  go_ret
  exact ⟨rfl, B3.out.trans (b4.mono B3.out.size)⟩

set_option maxRecDepth 100000 in
set_option maxHeartbeats 2000000 in
theorem texts_law (s : ByteArray) (v : Int) (w : World) (hT : Tab w) :
    Calls Tryd.prog 5 #[.string s, .int .i64 v] w fun e w' => e = .returned (.bool true) ∧ Below w.heap.size w w' := by
  have HT := Lib.hid hT
  clear hT
  by_cases h : 100 < s.size
  · go_enter Tryd.func5, Tryd.ntmps5
    go_wp2_with fail
    refine (told_any w HT.out).mono ?_
    rintro e w1 ⟨rfl, b1⟩
    go_wp2_with fail
    go_ret
    exact ⟨rfl, b1⟩
  have h100 : s.size ≤ 100 := by omega
  clear h
  go_enter Tryd.func5, Tryd.ntmps5
  go_wp2_with fail
  refine (hex_any s w).mono ?_
  rintro e w1 ⟨rfl, b1⟩
  go_wp2_with fail
  refine (refhex_any s w1).mono ?_
  rintro e w2 ⟨rfl, rfl⟩
  generalize hexV s.data.toList = hv at *
  generalize hexE s.data.toList = he at *
  have HT1 := Lib.hid (HT.out.below (Nat.le_refl _) b1)
  go_wp2_with fail
  refine (puthex_all v w1 HT1.out).mono ?_
  rintro e w2 ⟨rfl, b2⟩
  have HT2 := Lib.hid (HT1.out.below (Nat.le_refl _) b2)
  have B2 := Lib.hid (b1.trans (b2.mono b1.size))
  clear b1 b2
  go_wp2_with fail
  refine (refputhex_all v w2).mono ?_
  rintro e w3 ⟨rfl, rfl⟩
  generalize hS v = ps at *
  generalize hE v = pe at *
  go_wp2_with fail
  refine (decimal_any s w2 (by omega)).mono ?_
  rintro e w3 ⟨rfl, b3⟩
  have HT3 := Lib.hid (HT2.out.below (Nat.le_refl _) b3)
  have B3 := Lib.hid (B2.out.trans (b3.mono B2.out.size))
  clear b3
  go_wp2_with fail
  refine (refdecimal_any s w3 (by omega)).mono ?_
  rintro e w4 ⟨rfl, rfl⟩
  generalize decV s.data.toList = dv at *
  generalize decE s.data.toList = de at *
  go_wp2_with fail
  refine (told_any w3 HT3.out).mono ?_
  rintro e w4 ⟨rfl, b4⟩
  go_wp2_with fail
  go_ret
  exact ⟨rfl, B3.out.trans (b4.mono B3.out.size)⟩
end Go.Proofs.YthjlemglfgamnaaDoor.NumC

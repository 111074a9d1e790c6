/-
  PathCleans' law.
-/
import Derived.Test.YtkimmabndmceoaaDoorPaT
namespace Go.Proofs.YtkimmabndmceoaaDoor.PaC
open Go.RowKit Go.My PaMath

theorem pclean_any (s : ByteArray) (hs : s.size ≤ 1000000) (w : World) :
    Calls Tryd.prog 9 #[.string s] w fun e w' => e = .returned (cleanV (lst s)) ∧ Below w.heap.size w w' := by
  cases hc : clean (lst s) with
  | none => rw [cleanV_none hc]; exact pclean_no s hs hc w
  | some o => rw [cleanV_some hc]; exact pclean_ok s (tx o) hs (by rw [lst_tx]; exact hc) w
theorem cleanV_cases (l : List UInt8) : ∃ (q : ByteArray) (b : Bool), cleanV l = .tuple #[.string q, .bool b] := by
  cases hc : clean l with
  | none => exact ⟨_, _, cleanV_none hc⟩
  | some o => exact ⟨_, _, cleanV_some hc⟩
set_option maxRecDepth 100000 in
set_option maxHeartbeats 4000000 in
theorem cleans_law (s : ByteArray) (n : Int) (w : World) :
    Calls Tryd.prog 3 #[.string s, .int .i64 n] w fun e w' => e = .returned (.bool true) ∧ Below w.heap.size w w' := by
  by_cases hl : 300 < s.size
  · go_enter Tryd.func3, Tryd.ntmps3
    go_wp2_with fail
    refine (told_any w).mono ?_
    rintro e w1 ⟨rfl, hb⟩
    go_wp2_with fail
    go_ret
    exact ⟨rfl, hb⟩
  have hand := i64_and_mask n 5 (by omega) 31 32 rfl rfl
  obtain ⟨m, hm⟩ : ∃ m : Nat, n % 32 = (m : Int) := ⟨(n % 32).toNat, by omega⟩
  have hm2 : m ≤ 31 := by omega
  rw [hm] at hand
  clear hm
  go_enter Tryd.func3, Tryd.ntmps3
  go_wp2_with fail
  go_loop [5, 6] (fun t i => ∃ (k : Nat) (T : ByteArray), i = .int .i64 (k : Int) ∧ t = .string T ∧ k ≤ m ∧ T.size ≤ (k + 1) * 300) (fun _ i => m - (intOf i).toNat)
  case atStart => exact ⟨0, s, rfl, rfl, Nat.zero_le _, by omega⟩
  case round =>
    obtain ⟨k, T, rfl, rfl, hk, hT⟩ := hrel
    by_cases hlt : k < m
    · have hT2 : (T ++ s).size ≤ (k + 1 + 1) * 300 := by rw [ByteArray.size_append]; omega
      go_wp2_with fail
      go_round
      case rel => exact ⟨k + 1, T ++ s, by simp, rfl, by omega, hT2⟩
      case measure => simp [intOf] <;> omega
    · have hts : T.size ≤ 1000000 := by omega
      obtain ⟨q, b, hq⟩ := cleanV_cases (lst T)
      have HQ := Lib.hid hq
      obtain ⟨R, hR⟩ : ∃ R, R = isR (lst T) := ⟨_, rfl⟩
      have HR := Lib.hid hR
      obtain ⟨X, hX⟩ : ∃ X, X = tx (lastOf (lst T)) := ⟨_, rfl⟩
      have HX := Lib.hid hX
      obtain ⟨L, hL⟩ : ∃ L, L = split (lst T) := ⟨_, rfl⟩
      have HL := Lib.hid hL
      clear hq hR hX hL
      have x1 : (q.toList == q.toList) = true := by simp
      have x2 : (X.toList == X.toList) = true := by simp
      have x3 : (R == R) = true := by simp
      have x4 : (b == b) = true := by simp
      go_wp2_with fail
      refine (pclean_any T hts w).mono ?_
      rintro e w1 ⟨rfl, b1⟩
      have B1 := Lib.hid b1
      clear b1
      rw [HQ.out]
      go_wp2_with fail
      refine (rclean_any T hts w1).mono ?_
      rintro e w2 ⟨rfl, b2⟩
      have B2 := Lib.hid (B1.out.trans (b2.mono B1.out.size))
      clear b2
      rw [HQ.out]
      go_wp2_with fail
      refine (told_any w2).mono ?_
      rintro e w3 ⟨rfl, b3⟩
      have B3 := Lib.hid (B2.out.trans (b3.mono B2.out.size))
      clear b3
      go_wp2_with fail
      refine (right_any T hts w3).mono ?_
      rintro e w4 ⟨rfl, b4⟩
      have B4 := Lib.hid (B3.out.trans (b4.mono B3.out.size))
      clear b4
      rw [← HR.out]
      go_wp2_with fail
      refine (rright_any T hts w4).mono ?_
      rintro e w5 ⟨rfl, b5⟩
      have B5 := Lib.hid (B4.out.trans (b5.mono B4.out.size))
      clear b5
      rw [← HR.out]
      go_wp2_with fail
      refine (psplit_any T hts w5).mono ?_
      rintro e w6 ⟨a6, c6, rfl, r6, b6⟩
      have B6 := Lib.hid (B5.out.trans (b6.mono B5.out.size))
      rw [← HL.out] at r6 ⊢
      have R6 := Lib.hid r6
      clear b6 r6
      go_wp2_with fail
      refine (rsplit_any T hts w6).mono ?_
      rintro e w7 ⟨a7, c7, rfl, r7, b7⟩
      have B7 := Lib.hid (B6.out.trans (b7.mono B6.out.size))
      rw [← HL.out] at r7 ⊢
      have R7 := Lib.hid r7
      have R67 := Lib.hid (R6.out.below (Nat.le_refl _) b7)
      clear b7 r7
      go_wp2_with fail
      refine (texts_any L a6 a7 c6 c7 w7 R67.out R7.out).mono ?_
      rintro e w8 ⟨rfl, b8⟩
      have B8 := Lib.hid (B7.out.trans (b8.mono B7.out.size))
      clear b8
      go_wp2_with fail
      refine (last_any T hts w8).mono ?_
      rintro e w9 ⟨rfl, b9⟩
      have B9 := Lib.hid (B8.out.trans (b9.mono B8.out.size))
      clear b9
      rw [← HX.out]
      go_wp2_with fail
      refine (rlast_any T hts w9).mono ?_
      rintro e w10 ⟨rfl, b10⟩
      have B10 := Lib.hid (B9.out.trans (b10.mono B9.out.size))
      clear b10
      rw [← HX.out]
      go_wp2_with fail
      go_ret
      exact ⟨rfl, B10.out⟩
end Go.Proofs.YtkimmabndmceoaaDoor.PaC

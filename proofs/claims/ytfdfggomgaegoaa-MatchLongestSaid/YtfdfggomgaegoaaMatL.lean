/-
  law 13's same, again.
-/
import Derived.Test.YtfdfggomgaegoaaMatK
namespace Go.Proofs.Ytfdfggomgaegoaa.MatC
open Go.RowKit Go.My MatMath LzC

set_option maxRecDepth 100000 in
set_option maxHeartbeats 4000000 in
theorem same_yes {a1 a2 : Option Addr} {n c1 c2 : Nat} {f : Nat → LzMath.Tok} (w : World) (h1 : TokIn w a1 n c1 f) (h2 : TokIn w a2 n c2 f) (hn : n ≤ 1000000000) :
    Calls Try.prog 13 #[.slice a1 n c1, .slice a2 n c2] w fun e w' => e = .returned (.bool true) ∧ Drew w w' := by
  have H1 := Lib.hid h1
  have H2 := Lib.hid h2
  clear h1 h2
  go_enter Try.func13, Try.ntmps13
  go_wp2_with fail
  go_loopw [5] (fun v wr => ∃ k : Nat, k ≤ n ∧ v = .int .i64 (k : Int) ∧ Hid (Drew w wr)) (fun v _ => n - (intOf v).toNat)
  case atStart => exact ⟨0, Nat.zero_le _, rfl, Lib.hid (Drew.refl _)⟩
  case round =>
    obtain ⟨k, hk, rfl, HD⟩ := hrel
    by_cases hlt : k < n
    · obtain ⟨b1, o1, rfl, t1⟩ := (H1.out.below (Nat.le_refl _) HD.out.below).get hlt
      obtain ⟨b2, o2, rfl, t2⟩ := (H2.out.below (Nat.le_refl _) HD.out.below).get hlt
      have x0 := t1.len
      have x1 := t1.dist
      have x2 := t1.byte
      have y0 := t2.len
      have y1 := t2.dist
      have y2 := t2.byte
      clear t1 t2
      generalize (f k).len = L at *
      generalize (f k).dist = D at *
      generalize (f k).byte.toNat = B at *
      have g1 : decide (k < n) = true := by simp; omega
      go_wp2_with fail
      go_quiet (fail)
      have HD2 := Lib.hid (HD.out.more nq)
      clear HD x0 x1 x2 y0 y1 y2
      generalize wr.drewN nq = w2 at *
      go_wp2_with fail
      go_roundw
      case rel => exact ⟨k + 1, by omega, by go_num, HD2⟩
      case measure => simp [intOf]; omega
    · obtain rfl : k = n := by omega
      have g1 : decide (k < k) = false := by simp
      go_wp2_with fail
      go_ret
      exact ⟨rfl, HD.out⟩

theorem again_any {b off len cap : Nat} (i n : Nat) (w : World) (hn : 0 < n) (h : i + n ≤ len) (hc : len ≤ cap) (hm : cap ≤ 9223372036854775807) :
    Calls Try.prog 17 #[.slice (some ⟨b, off, none⟩) len cap, .int .i64 (i : Int), .int .i64 (n : Int)] w fun e w' => e = .returned (.slice (some ⟨b, off + i, none⟩) n (cap - i)) ∧ w' = w := by
  obtain ⟨A, hA⟩ : ∃ A, A = i + n := ⟨_, rfl⟩
  have e1 : (i : Int) + (n : Int) = (A : Int) := by omega
  have e2 : A - i = n := by omega
  have e3 : ¬ cap = i := by omega
  have e4 : (A : Int) ≤ (cap : Int) := by omega
  have e5 : (i : Int) ≤ (A : Int) := by omega
  clear hA
  go_enter Try.func17, Try.ntmps17
  go_wp2_with fail
  go_ret
  exact ⟨by simp, rfl⟩
end Go.Proofs.Ytfdfggomgaegoaa.MatC

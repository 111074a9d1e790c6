/-
  The document's Base, Far.
-/
import Derived.Test.YtaeoedapaiapdaaInfC0
namespace Go.Proofs.Ytaeoedapaiapdaa.InfC
open Go.RowKit Go.My BitMath CanMath TabMath WinMath CanC
open InfMath (M Ok Steps Ends CodeOk mu lack fixL fixD)

theorem rbase_no (z : Int) (wide : Bool) (w : World) (h : z < 257 ∨ 285 < z) :
    Calls Try.prog 15 #[.int .i64 z, .bool wide] w fun e w' => e = .returned (.tuple #[.int .i64 0, .int .i64 0, .bool false]) ∧ w = w' := by
  by_cases h1 : z < 257
  · go_enter Try.func15, Try.ntmps15
    go_wp2_with fail
    go_ret3
    exact ⟨rfl, rfl⟩
  · have h2 : decide (z > 285) = true := by simp; omega
    go_enter Try.func15, Try.ntmps15
    go_wp2_with fail
    go_ret3
    exact ⟨rfl, rfl⟩
theorem rbase_low (v : Nat) (wide : Bool) (w : World) (h1 : 257 ≤ v) (h2 : v < 265) :
    Calls Try.prog 15 #[.int .i64 (v : Int), .bool wide] w fun e w' => e = .returned (.tuple #[.int .i64 ((v - 254 : Nat) : Int), .int .i64 0, .bool true]) ∧ w = w' := by
  rcases (by omega : v = 257 ∨ v = 258 ∨ v = 259 ∨ v = 260 ∨ v = 261 ∨ v = 262 ∨ v = 263 ∨ v = 264) with rfl | rfl | rfl | rfl | rfl | rfl | rfl | rfl
  all_goals
    clear h1 h2
    go_enter Try.func15, Try.ntmps15
    go_wp2_with fail
    go_ret3
    exact ⟨rfl, rfl⟩
theorem rbase_mid (v : Nat) (wide : Bool) (w : World) (h1 : 265 ≤ v) (h2 : v < 285) :
    Calls Try.prog 15 #[.int .i64 (v : Int), .bool wide] w fun e w' => e = .returned (.tuple #[.int .i64 ((3 + (4 + (v - 265) % 4) * 2 ^ ((v - 265) / 4 + 1) : Nat) : Int), .int .i64 (((v - 265) / 4 + 1 : Nat) : Int), .bool true]) ∧ w = w' := by
  rcases (by omega : v = 265 ∨ v = 266 ∨ v = 267 ∨ v = 268 ∨ v = 269 ∨ v = 270 ∨ v = 271 ∨ v = 272 ∨ v = 273 ∨ v = 274 ∨ v = 275 ∨ v = 276 ∨ v = 277 ∨ v = 278 ∨ v = 279 ∨ v = 280 ∨ v = 281 ∨ v = 282 ∨ v = 283 ∨ v = 284) with rfl | rfl | rfl | rfl | rfl | rfl | rfl | rfl | rfl | rfl | rfl | rfl | rfl | rfl | rfl | rfl | rfl | rfl | rfl | rfl
  all_goals
    clear h1 h2
    go_enter Try.func15, Try.ntmps15
    go_wp2_with fail
    go_ret3
    exact ⟨rfl, rfl⟩
theorem rbase_top (wide : Bool) (w : World) :
    Calls Try.prog 15 #[.int .i64 285, .bool wide] w fun e w' => e = .returned (ansB (InfMath.base 285 wide)) ∧ w = w' := by
  cases wide
  all_goals
    go_enter Try.func15, Try.ntmps15
    go_wp2_with fail
    go_ret3
    exact ⟨rfl, rfl⟩
theorem rbase_any (z : Int) (wide : Bool) (w : World) :
    Calls Try.prog 15 #[.int .i64 z, .bool wide] w fun e w' => e = .returned (ansB (baseZ z wide)) ∧ w = w' := by
  by_cases h : z < 257 ∨ 285 < z
  · have e : baseZ z wide = none := by
      unfold baseZ InfMath.base
      by_cases h0 : z < 0
      · rw [if_pos h0]
      · rw [if_neg h0, if_pos (by omega)]
    rw [e]
    exact rbase_no z wide w h
  · obtain ⟨v, rfl⟩ : ∃ v : Nat, z = (v : Int) := ⟨z.toNat, by omega⟩
    rw [baseZ_nat]
    by_cases h1 : v < 265
    · have e : InfMath.base v wide = some (v - 254, 0) := by unfold InfMath.base; rw [if_neg (by omega), if_pos h1]
      rw [e]
      exact rbase_low v wide w (by omega) h1
    · by_cases h2 : v < 285
      · have e : InfMath.base v wide = some (3 + (4 + (v - 265) % 4) * 2 ^ ((v - 265) / 4 + 1), (v - 265) / 4 + 1) := by unfold InfMath.base; rw [if_neg (by omega), if_neg h1, if_pos h2]
        rw [e]
        exact rbase_mid v wide w (by omega) h2
      · obtain rfl : v = 285 := by omega
        exact rbase_top wide w

theorem rfar_neg (z : Int) (wide : Bool) (w : World) (h : z < 0) :
    Calls Try.prog 16 #[.int .i64 z, .bool wide] w fun e w' => e = .returned (.tuple #[.int .i64 0, .int .i64 0, .bool false]) ∧ w = w' := by
  go_enter Try.func16, Try.ntmps16
  go_wp2_with fail
  go_ret3
  exact ⟨rfl, rfl⟩
theorem rfar_no (v : Nat) (wide : Bool) (w : World) (h : InfMath.lastD wide < v) :
    Calls Try.prog 16 #[.int .i64 (v : Int), .bool wide] w fun e w' => e = .returned (.tuple #[.int .i64 0, .int .i64 0, .bool false]) ∧ w = w' := by
  by_cases h1 : 31 < v
  · have h0 : decide ((v : Int) < 0) = false := by simp
    have h2 : decide ((v : Int) > 31) = true := by simp; omega
    clear h
    go_enter Try.func16, Try.ntmps16
    go_wp2_with fail
    go_ret3
    exact ⟨rfl, rfl⟩
  · cases wide with
    | true => unfold InfMath.lastD at h; simp at h; omega
    | false =>
      have : v = 30 ∨ v = 31 := by unfold InfMath.lastD at h; simp at h; omega
      clear h h1
      rcases this with rfl | rfl
      all_goals
        go_enter Try.func16, Try.ntmps16
        go_wp2_with fail
        go_ret3
        exact ⟨rfl, rfl⟩
theorem rfar_low (v : Nat) (wide : Bool) (w : World) (h : v < 4) :
    Calls Try.prog 16 #[.int .i64 (v : Int), .bool wide] w fun e w' => e = .returned (.tuple #[.int .i64 ((1 + v : Nat) : Int), .int .i64 0, .bool true]) ∧ w = w' := by
  rcases (by omega : v = 0 ∨ v = 1 ∨ v = 2 ∨ v = 3) with rfl | rfl | rfl | rfl
  all_goals
    go_enter Try.func16, Try.ntmps16
    go_wp2_with fail
    go_ret3
    exact ⟨rfl, rfl⟩
theorem rfar_mid (v : Nat) (wide : Bool) (w : World) (h1 : 4 ≤ v) (h : v ≤ InfMath.lastD wide) :
    Calls Try.prog 16 #[.int .i64 (v : Int), .bool wide] w fun e w' => e = .returned (.tuple #[.int .i64 ((1 + (2 + v % 2) * 2 ^ (v / 2 - 1) : Nat) : Int), .int .i64 ((v / 2 - 1 : Nat) : Int), .bool true]) ∧ w = w' := by
  have hle := lastD_le wide
  have hw : 30 ≤ v → wide = true := by cases wide; (intro h2; unfold InfMath.lastD at h; simp at h; omega); (intro _; rfl)
  rcases (by omega : v = 4 ∨ v = 5 ∨ v = 6 ∨ v = 7 ∨ v = 8 ∨ v = 9 ∨ v = 10 ∨ v = 11 ∨ v = 12 ∨ v = 13 ∨ v = 14 ∨ v = 15 ∨ v = 16 ∨ v = 17 ∨ v = 18 ∨ v = 19 ∨ v = 20 ∨ v = 21 ∨ v = 22 ∨ v = 23 ∨ v = 24 ∨ v = 25 ∨ v = 26 ∨ v = 27 ∨ v = 28 ∨ v = 29 ∨ v = 30 ∨ v = 31) with
    rfl | rfl | rfl | rfl | rfl | rfl | rfl | rfl | rfl | rfl | rfl | rfl | rfl | rfl | rfl | rfl | rfl | rfl | rfl | rfl | rfl | rfl | rfl | rfl | rfl | rfl | rfl | rfl
  all_goals
    go_enter Try.func16, Try.ntmps16
    go_wp2_with fail
    go_ret3
    exact ⟨rfl, rfl⟩
theorem rfar_any (z : Int) (wide : Bool) (w : World) :
    Calls Try.prog 16 #[.int .i64 z, .bool wide] w fun e w' => e = .returned (ansB (farZ z wide)) ∧ w = w' := by
  by_cases h : z < 0
  · have e : farZ z wide = none := by unfold farZ; rw [if_pos h]
    rw [e]
    exact rfar_neg z wide w h
  · obtain ⟨v, rfl⟩ : ∃ v : Nat, z = (v : Int) := ⟨z.toNat, by omega⟩
    rw [farZ_nat]
    by_cases h1 : InfMath.lastD wide < v
    · have e : InfMath.far v wide = none := by unfold InfMath.far; rw [if_pos h1]
      rw [e]
      exact rfar_no v wide w h1
    · by_cases h2 : v < 4
      · have e : InfMath.far v wide = some (1 + v, 0) := by unfold InfMath.far; rw [if_neg h1, if_pos h2]
        rw [e]
        exact rfar_low v wide w h2
      · have e : InfMath.far v wide = some (1 + (2 + v % 2) * 2 ^ (v / 2 - 1), v / 2 - 1) := by unfold InfMath.far; rw [if_neg h1, if_neg h2]
        rw [e]
        exact rfar_mid v wide w (by omega) (by omega)
end Go.Proofs.Ytaeoedapaiapdaa.InfC

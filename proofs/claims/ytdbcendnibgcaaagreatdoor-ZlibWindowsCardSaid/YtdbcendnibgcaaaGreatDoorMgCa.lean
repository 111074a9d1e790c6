import Derived.Test.YtdbcendnibgcaaaGreatDoorMgBu
import Derived.Test.YtdbcendnibgcaaaGreatDoorMgAi

section
/-
  The document's symbols of short lengths and of distances (stevedoreref13.Symbol, Reach).
-/
namespace Go.Proofs.YtdbcendnibgcaaaGreatDoor.InfC
open Go.RowKit Go.My BitMath CanMath TabMath WinMath

def lenL (s : Nat) : Nat := if s < 265 then s - 254 else 3 + (4 + (s - 265) % 4) * 2 ^ ((s - 265) / 4 + 1)
def lenX (s : Nat) : Nat := if s < 265 then 0 else (s - 265) / 4 + 1
theorem len_base (s : Nat) (h1 : 257 ≤ s) (h2 : s ≤ 284) (wide : Bool) : InfMath.base s wide = some (lenL s, lenX s) := by
  unfold InfMath.base lenL lenX
  rw [if_neg (by omega)]
  by_cases h : s < 265
  · rw [if_pos h, if_pos h, if_pos h]
  · rw [if_neg h, if_neg h, if_neg h, if_pos (by omega)]
theorem len_next : ∀ s : Fin 284, 257 ≤ s.val → lenL (s.val + 1) = lenL s.val + 2 ^ lenX s.val := by decide +kernel
theorem len_small : ∀ s : Fin 285, lenX s.val ≤ 5 := by decide +kernel
theorem len_last : lenL 284 + 2 ^ lenX 284 = 259 := by decide
def farL (s : Nat) : Nat := if s < 4 then 1 + s else 1 + (2 + s % 2) * 2 ^ (s / 2 - 1)
def farX (s : Nat) : Nat := if s < 4 then 0 else s / 2 - 1
theorem far_base (s : Nat) (h2 : s ≤ 29) (wide : Bool) : InfMath.far s wide = some (farL s, farX s) := by
  unfold InfMath.far farL farX
  rw [if_neg (by unfold InfMath.lastD; cases wide <;> simp <;> omega)]
  by_cases h : s < 4
  · rw [if_pos h, if_pos h, if_pos h]
  · rw [if_neg h, if_neg h, if_neg h]
theorem far_next : ∀ s : Fin 29, farL (s.val + 1) = farL s.val + 2 ^ farX s.val := by decide +kernel
theorem far_small : ∀ s : Fin 30, farX s.val ≤ 13 := by decide +kernel
theorem far_last : farL 29 + 2 ^ farX 29 = 32769 := by decide
theorem pow_le13 {x : Nat} (h : x ≤ 13) : 2 ^ x ≤ 8192 := by
  have := Nat.pow_le_pow_right (n := 2) (by omega) h
  simpa using this
theorem two_pow64 {X : Nat} (h : 2 ^ X ≤ 65536) : wrap64 ((2 : Int) ^ X) = ((2 ^ X : Nat) : Int) := by
  have e : ((2 : Int) ^ X) = ((2 ^ X : Nat) : Int) := by push_cast; rfl
  rw [e]
  generalize 2 ^ X = P at *
  exact IntWalk.wrap64_in _ (by omega)

set_option maxRecDepth 100000 in
set_option maxHeartbeats 2000000 in
theorem rreach_any (n : Nat) (wide : Bool) (w : World) (h1 : 1 ≤ n) (h2 : n ≤ 32768) :
    Calls Tryz.prog 16 #[.int .i64 (n : Int), .bool wide] w fun e w' => (∃ a l x v : Nat, e = .returned (.tuple #[.int .i64 (a : Int), .int .i64 (x : Int), .int .i64 (v : Int)]) ∧ InfMath.far a wide = some (l, x) ∧ v < 2 ^ x ∧ l + v = n ∧ a ≤ 29 ∧ x ≤ 13) ∧ w = w' := by
  obtain ⟨N, hN⟩ : ∃ N : Int, N = (n : Int) := ⟨_, rfl⟩
  rw [← hN]
  have HN := Lib.hid hN
  clear hN
  go_enter Tryz.func16, Tryz.ntmps16
  go_wp2_with fail
  go_loop [7] (fun kv => ∃ k : Nat, k ≤ 29 ∧ kv = .int .i64 (k : Int) ∧ Hid (farL k ≤ n)) (fun kv => 32 - (intOf kv).toNat)
  case atStart => exact ⟨0, by omega, rfl, Lib.hid h1⟩
  case round =>
    obtain ⟨k, hk2, rfl, HL⟩ := hrel
    have hbs := far_base k hk2 wide
    have hx5 := far_small ⟨k, by omega⟩
    simp only at hx5
    obtain ⟨L, hL⟩ : ∃ L, L = farL k := ⟨_, rfl⟩
    obtain ⟨X, hX⟩ : ∃ X, X = farX k := ⟨_, rfl⟩
    rw [← hL, ← hX] at hbs
    rw [← hL] at HL
    rw [← hX] at hx5
    have HLX := Lib.hid (And.intro hL hX)
    have HBS := Lib.hid hbs
    have hLn := HL.out
    clear hL hX hbs
    go_wp2_with fail
    refine (rfar_any (k : Int) wide w).mono ?_
    rw [farZ_nat, HBS.out]
    rintro e w' ⟨rfl, rfl⟩
    unfold ansB
    dsimp only
    have hnl : (L : Int) ≤ N := by have := HN.out; omega
    have h64 : IntKind.u64.wrap (X : Int) = (X : Int) := IntWalk.u64_in _ (by omega)
    obtain ⟨V, hV, e1⟩ : ∃ V : Nat, L + V = n ∧ wrap64 (N - (L : Int)) = (V : Int) := ⟨n - L, by omega, by rw [IntWalk.wrap64_in _ (by have := HN.out; omega)]; have := HN.out; omega⟩
    have hp32 := pow_le13 hx5
    obtain ⟨P, hP, e2⟩ : ∃ P : Nat, P = 2 ^ X ∧ wrap64 ((2 : Int) ^ X) = (P : Int) := ⟨2 ^ X, rfl, two_pow64 (by omega)⟩
    have HP := Lib.hid (And.intro hP hV)
    have hnI : N - (L : Int) = (V : Int) := by have := HN.out; omega
    clear hP hp32 hLn HL
    by_cases hf : V < P
    · go_wp2_with fail
      go_ret3
      exact ⟨⟨k, L, X, V, rfl, HBS.out, by rw [← HP.out.1]; exact hf, HP.out.2, by omega, by omega⟩, rfl⟩
    · have HF := Lib.hid hf
      go_wp2_with fail
      have hn1 : k < 29 ∧ farL (k + 1) ≤ n := by
        obtain ⟨h3, h4⟩ := HLX.out
        obtain ⟨h5, h6⟩ := HP.out
        have h7 := HF.out
        have hk : k ≠ 29 := fun e => by
          have := far_last
          rw [← e, ← h3, ← h4, ← h5] at this
          omega
        have hlt : k < 29 := by omega
        have := far_next ⟨k, hlt⟩
        simp only at this
        rw [this, ← h3, ← h4, ← h5]
        omega
      refine ⟨⟨k + 1, by omega, by go_num, Lib.hid hn1.2⟩, ?_⟩
      simp [intOf]; omega
end Go.Proofs.YtdbcendnibgcaaaGreatDoor.InfC
end

import Derived.Test.YtdbcendnibgcaaaGreatDoorMgAa
import Derived.Test.YtdbcendnibgcaaaGreatDoorMgAb
import Derived.Test.YtdbcendnibgcaaaGreatDoorMgAc
import Derived.Deep.QuietTactic
import Derived.BigQuiet

section
/-
  zlib's heads: check, Read, the document's ReadZ; tail.
-/
namespace Go.Proofs.YtdbcendnibgcaaaGreatDoor.ZlC
open Go.RowKit Go.My ZlMath
open Go.My.NumMath (bytesOf)

theorem and15 (n : Nat) (h : n < 256) : bits .and .u8 (n : Int) 15 = ((n % 16 : Nat) : Int) := by
  have : ∀ k : Fin 256, bits .and .u8 (k.val : Int) 15 = ((k.val % 16 : Nat) : Int) := by decide +kernel
  exact this ⟨n, h⟩
theorem and32 (n : Nat) (h : n < 256) : bits .and .u8 (n : Int) 32 = ((n / 32 % 2 * 32 : Nat) : Int) := by
  have : ∀ k : Fin 256, bits .and .u8 (k.val : Int) 32 = ((k.val / 32 % 2 * 32 : Nat) : Int) := by decide +kernel
  exact this ⟨n, h⟩
theorem i64_or_nat (a b : Nat) (ha : a < 2 ^ 63) (hb : b < 2 ^ 63) : bits .or .i64 (a : Int) (b : Int) = ((a ||| b : Nat) : Int) := by
  have h := Nat.or_lt_two_pow ha hb
  show IntKind.i64.wrap ((BitVec.ofInt 64 (a : Int) ||| BitVec.ofInt 64 (b : Int)).toNat : Int) = _
  rw [BitVec.toNat_or, BitVec.toNat_ofInt, BitVec.toNat_ofInt]
  rw [show ((a : Int) % ((2 ^ 64 : Nat) : Int)).toNat = a from by omega, show ((b : Int) % ((2 ^ 64 : Nat) : Int)).toNat = b from by omega]
  rw [IntKind.wrap_i64]
  omega
theorem i64_or8 (v c : Nat) (hv : v ≤ 18014398509481984) (hc : c < 256) : bits .or .i64 ((v : Int) * 256) (c : Int) = ((v * 256 + c : Nat) : Int) := by
  rw [show (v : Int) * 256 = ((v * 256 : Nat) : Int) from by omega, i64_or_nat _ _ (by omega) (by omega)]
  congr 1
  have := Nat.shiftLeft_add_eq_or_of_lt (i := 8) (a := v) (b := c) (by omega)
  rw [Nat.shiftLeft_eq] at this
  exact this.symm
theorem check_short (a : Option Addr) (len cap : Nat) (w : World) (h : len < 2) :
    Calls Tryz.prog 21 #[.slice a len cap] w fun e w' => e = .returned (.int .i64 5) ∧ w = w' := by
  go_enter Tryz.func21, Tryz.ntmps21
  go_wp2_with fail
  go_ret
  exact ⟨rfl, rfl⟩
theorem check_any (a : Option Addr) (len cap : Nat) (x y : UInt8) (r : List UInt8) (w : World) (hb : Bytes w a len cap (x :: y :: r)) :
    Calls Tryz.prog 21 #[.slice a len cap] w fun e w' => e = .returned (.int .i64 ((if zbad x.toNat y.toNat then 2 else 0 : Nat) : Int)) ∧ Below w.heap.size w w' := by
  have hl := hb.len_eq
  simp only [List.length_cons] at hl
  obtain ⟨b, o, rfl⟩ := hb.some_ (by omega)
  have x0 := MatC.byte_at hb 0 (by simp)
  have x1 := MatC.byte_at hb 1 (by simp)
  simp only [List.getElem_cons_zero, List.getElem_cons_succ, Nat.add_zero] at x0 x1
  have hx := x.toNat_lt
  have hy := y.toNat_lt
  have e1 := and15 x.toNat hx
  have e2 := and32 y.toNat hy
  have e3 := i64_or8 x.toNat y.toNat (by omega) hy
  clear hb
  generalize x.toNat = X at *
  generalize y.toNat = Y at *
  obtain ⟨C, hC⟩ : ∃ C : Nat, C = if zbad X Y then 2 else 0 := ⟨_, rfl⟩
  rw [← hC]
  have HC := Lib.hid hC
  clear hC
  go_enter Tryz.func21, Tryz.ntmps21
  go_wp2_with fail
  · have h : X % 16 ≠ 8 := by have := ‹((X : Int) % 16 != 8) = true›; simp at this; omega
    go_ret
    exact ⟨by rw [HC.out.trans (if_pos (by unfold zbad; simp [h]))]; rfl, Below.refl _ _⟩
  · have h : 7 < X / 16 := by have := ‹7 < (X : Int) / 16›; omega
    go_ret
    exact ⟨by rw [HC.out.trans (if_pos (by unfold zbad; simp [h]))]; rfl, Below.refl _ _⟩
  · have g1 : X % 16 = 8 := by have := ‹((X : Int) % 16 != 8) = false›; simp at this; omega
    have g2 : X / 16 ≤ 7 := by have := ‹(X : Int) / 16 ≤ 7›; omega
    go_quiet (fail)
    go_wp2_with fail
    · have h : (X * 256 + Y) % 31 ≠ 0 := by have := ‹(((X : Int) * 256 + (Y : Int)) % 31 != 0) = true›; simp at this; omega
      go_ret
      exact ⟨by rw [HC.out.trans (if_pos (by unfold zbad; simp [h]))]; rfl, MatC.quiet_below _ _⟩
    · have h : Y / 32 % 2 ≠ 0 := by have := ‹((Y : Int) / 32 % 2 * 32 != 0) = true›; simp at this; omega
      go_ret
      exact ⟨by rw [HC.out.trans (if_pos (by unfold zbad; simp; omega))]; rfl, MatC.quiet_below _ _⟩
    · have h3 : (X * 256 + Y) % 31 = 0 := by have := ‹(((X : Int) * 256 + (Y : Int)) % 31 != 0) = false›; simp at this; omega
      have h4 : Y / 32 % 2 = 0 := by have := ‹((Y : Int) / 32 % 2 * 32 != 0) = false›; simp at this; omega
      go_ret
      exact ⟨by rw [HC.out.trans (if_neg (by unfold zbad; simp [g1, g2, h3, h4]))]; rfl, MatC.quiet_below _ _⟩
theorem read_any (a : Option Addr) (len cap : Nat) (l : List UInt8) (w : World) (hb : Bytes w a len cap l) :
    Calls Tryz.prog 8 #[.slice a len cap] w fun e w' => e = .returned (.tuple #[.int .i64 (rdN l : Int), .int .i64 (rdC l : Int)]) ∧ Below w.heap.size w w' := by
  by_cases h2 : len < 2
  · have hn : rdN l = 0 ∧ rdC l = 5 := by
      have := hb.len_eq
      match l with
      | [] => exact ⟨rfl, rfl⟩
      | [_] => exact ⟨rfl, rfl⟩
      | _ :: _ :: _ => simp at this; omega
    rw [hn.1, hn.2]
    clear hb hn
    go_enter Tryz.func8, Tryz.ntmps8
    go_wp2_with fail
    refine (check_short a len cap w h2).mono ?_
    rintro e w' ⟨rfl, rfl⟩
    go_wp2_with fail
    go_ret2
    exact ⟨rfl, Below.refl _ _⟩
  · obtain ⟨x, y, r, rfl⟩ : ∃ x y r, l = x :: y :: r := by
      have := hb.len_eq
      match l with
      | [] => simp at this; omega
      | [_] => simp at this; omega
      | x :: y :: r => exact ⟨x, y, r, rfl⟩
    have HK := Lib.hid (check_any a len cap x y r w hb)
    obtain ⟨b, o, rfl⟩ := hb.some_ (by omega)
    have HB := Lib.hid hb
    clear hb
    go_enter Tryz.func8, Tryz.ntmps8
    go_wp2_with fail
    refine HK.out.mono ?_
    rintro e w1 ⟨rfl, hb1⟩
    have HB1 := Lib.hid hb1
    have hb2 := HB.out.below (Nat.le_refl _) hb1
    have x0 := MatC.byte_at hb2 0 (by simp)
    simp only [List.getElem_cons_zero, Nat.add_zero] at x0
    cases hz : zbad x.toNat y.toNat
    · have h7 := (good_parts hz).2.1
      have hX := x.toNat_lt
      have HN : Hid (rdN (x :: y :: r) = 2 ^ (x.toNat / 16 + 8) ∧ rdC (x :: y :: r) = 0) := Lib.hid ⟨by simp [rdN, hz], by simp [rdC, hz]⟩
      clear hb1 hb2 HK hz
      generalize x.toNat = X at *
      simp only [Bool.false_eq_true, if_false]
      have h8 : X / 16 = 0 ∨ X / 16 = 1 ∨ X / 16 = 2 ∨ X / 16 = 3 ∨ X / 16 = 4 ∨ X / 16 = 5 ∨ X / 16 = 6 ∨ X / 16 = 7 := by omega
      rcases h8 with h | h | h | h | h | h | h | h
      all_goals
        rw [h] at HN
        first
          | (have e1 : (X : Int) / 16 = 0 := by omega)
          | (have e1 : (X : Int) / 16 = 1 := by omega)
          | (have e1 : (X : Int) / 16 = 2 := by omega)
          | (have e1 : (X : Int) / 16 = 3 := by omega)
          | (have e1 : (X : Int) / 16 = 4 := by omega)
          | (have e1 : (X : Int) / 16 = 5 := by omega)
          | (have e1 : (X : Int) / 16 = 6 := by omega)
          | (have e1 : (X : Int) / 16 = 7 := by omega)
        clear h h7
        go_wp2_with fail
        go_ret2
        rw [HN.out.1, HN.out.2]
        exact ⟨rfl, HB1.out⟩
    · have HN : Hid (rdN (x :: y :: r) = 0 ∧ rdC (x :: y :: r) = 2) := Lib.hid ⟨by simp [rdN, hz], by simp [rdC, hz]⟩
      clear hb1 hb2 HK hz x0
      simp only [if_true]
      go_wp2_with fail
      go_ret2
      rw [HN.out.1, HN.out.2]
      exact ⟨rfl, HB1.out⟩
end Go.Proofs.YtdbcendnibgcaaaGreatDoor.ZlC
end

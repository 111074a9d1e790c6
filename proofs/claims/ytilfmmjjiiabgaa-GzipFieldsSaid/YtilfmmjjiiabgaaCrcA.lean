import Derived.Test.YtilfmmjjiiabgaaRows
import Derived.Test.YtilfmmjjiiabgaaLib
import Derived.Test.YtilfmmjjiiabgaaCrcMath
namespace Go.Proofs.Ytilfmmjjiiabgaa.CrcC
open Go.RowKit Go.My CrcMath

theorem bv_xor (a b : BitVec 32) : bits .xor .u32 (a.toNat : Int) (b.toNat : Int) = ((a ^^^ b).toNat : Int) := by
  rw [u32_xor_nat _ _ a.isLt b.isLt, BitVec.toNat_xor]
theorem bv_and (a b : BitVec 32) : bits .and .u32 (a.toNat : Int) (b.toNat : Int) = ((a &&& b).toNat : Int) := by
  rw [u32_and_nat _ _ a.isLt b.isLt, BitVec.toNat_and]
theorem bv_or (a b : BitVec 32) : bits .or .u32 (a.toNat : Int) (b.toNat : Int) = ((a ||| b).toNat : Int) := by
  rw [u32_or_nat _ _ a.isLt b.isLt, BitVec.toNat_or]
theorem bv_low (a : BitVec 32) : (bits .and .u32 (a.toNat : Int) 1 == 1) = a.getLsbD 0 := by
  rw [show (1 : Int) = ((1#32 : BitVec 32).toNat : Int) from rfl, bv_and]
  rw [Bool.eq_iff_iff, beq_iff_eq]
  have : (a &&& 1#32).toNat = a.toNat % 2 := by
    rw [BitVec.toNat_and]; simp [Nat.and_one_is_mod]
  rw [this, BitVec.getLsbD, Nat.testBit_zero]
  simp
  omega
theorem bv_half (a : BitVec 32) : (a.toNat : Int) / (2 : Int) = ((a >>> 1).toNat : Int) := by
  rw [BitVec.toNat_ushiftRight, Nat.shiftRight_eq_div_pow]; simp

set_option maxHeartbeats 400000 in
theorem step_bv (r : BitVec 32) (w : World) :
    Calls Try.prog 57 #[.int .u32 (r.toNat : Int)] w fun e w' => e = .returned (.int .u32 ((cstep r).toNat : Int)) ∧ w = w' := by
  have hlow := bv_low r
  cases h : r.getLsbD 0
  · rw [h] at hlow
    go_enter Try.func57, Try.ntmps57
    go_wp2
    go_ret
    exact ⟨ret_int (by rw [bv_half, cstep, if_neg (by rw [h]; simp)]), rfl⟩
  · rw [h] at hlow
    go_enter Try.func57, Try.ntmps57
    go_wp2
    go_ret
    exact ⟨ret_int (by rw [bv_half, cstep, if_pos h, ← bv_xor]; rfl), rfl⟩

theorem ext_toNat (b : UInt8) : (ext b).toNat = b.toNat := by
  unfold ext; rw [BitVec.toNat_setWidth]; have := b.toNat_lt; simp

set_option maxHeartbeats 400000 in
theorem bitByBit_bv (r : BitVec 32) (a : Option Addr) (len cap : Nat) (l : List UInt8) (w : World) (hb : Bytes w a len cap l) :
    Calls Try.prog 51 #[.int .u32 (r.toNat : Int), .slice a len cap] w fun e w' => e = .returned (.int .u32 ((reg r l).toNat : Int)) ∧ w = w' := by
  obtain ⟨rfl, hlc, hcm, _, hb⟩ := hb
  have hm : l.length ≤ 9223372036854775807 := by omega
  clear hlc hcm
  go_enter Try.func51, Try.ntmps51
  go_wp2
  go_loop [0, 9] (fun x i => ∃ k : Nat, k ≤ l.length ∧ i = .int .i64 k ∧ x = .int .u32 ((reg r (l.take k)).toNat : Int)) (fun _ i => l.length - (intOf i).toNat)
  case atStart => exact ⟨0, Nat.zero_le _, rfl, rfl⟩
  case round =>
    obtain ⟨k, hk, rfl, rfl⟩ := hrel
    by_cases hlt : k < l.length
    · rcases hb with h0 | ⟨b, off, rfl, hbs, hc⟩
      · omega
      have hck := hc k hlt
      have hv : (l[k].toNat : Int) < 256 := by have := l[k].toNat_lt; omega
      clear hc
      go_wp2
      go_loop [0, 17] (fun x i => ∃ j : Nat, j ≤ 8 ∧ i = .int .i64 j ∧ x = .int .u32 ((cstepN j (reg r (l.take k) ^^^ ext l[k])).toNat : Int)) (fun _ i => 8 - (intOf i).toNat)
      case atStart => exact ⟨0, by omega, rfl, by rw [cstepN, ← bv_xor, ext_toNat]⟩
      case round =>
        obtain ⟨j, hj, rfl, rfl⟩ := hrel
        clear hck hv
        by_cases hlt8 : j < 8
        · go_wp2_with (go_at_call 57; refine (step_bv _ _).mono ?_; rintro e w' ⟨rfl, rfl⟩)
          go_round
          case rel => exact ⟨j + 1, by omega, by go_num, by rw [cstepN_succ']⟩
          case measure => simp [intOf]; omega
        · obtain rfl : j = 8 := by omega
          go_wp2
          go_round
          case rel => exact ⟨k + 1, by omega, by go_num, by rw [List.take_succ_eq_append_getElem hlt, reg_append]; rfl⟩
          case measure => simp [intOf]; omega
    · go_wp2
      go_ret
      exact ⟨ret_int (by rw [List.take_of_length_le (by omega)]), rfl⟩

end Go.Proofs.Ytilfmmjjiiabgaa.CrcC

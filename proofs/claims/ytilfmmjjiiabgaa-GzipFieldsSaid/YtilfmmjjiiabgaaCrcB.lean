import Derived.Test.YtilfmmjjiiabgaaCrcA
namespace Go.Proofs.Ytilfmmjjiiabgaa.CrcC
open Go.RowKit Go.My CrcMath
theorem bv_not (c : BitVec 32) : bits .xor .u32 IntKind.u32.max (c.toNat : Int) = ((c ^^^ ones).toNat : Int) := by
  rw [BitVec.xor_comm, ← bv_xor]; rfl
theorem bv_and1 (c : BitVec 32) : bits .and .u32 (c.toNat : Int) 1 = if c.getLsbD 0 then 1 else 0 := by
  have h := bv_low c
  rw [show (1 : Int) = ((1#32 : BitVec 32).toNat : Int) from rfl, bv_and] at *
  have : (c &&& 1#32).toNat = c.toNat % 2 := by
    rw [BitVec.toNat_and]; simp [Nat.and_one_is_mod]
  rw [this] at *
  rw [BitVec.getLsbD, Nat.testBit_zero]
  simp
  split <;> omega
set_option maxHeartbeats 400000 in
theorem ref_bv (c : BitVec 32) (a : Option Addr) (len cap : Nat) (l : List UInt8) (w : World) (hb : Bytes w a len cap l) :
    Calls Try.prog 14 #[.int .u32 (c.toNat : Int), .slice a len cap] w fun e w' => e = .returned (.int .u32 ((crc c l).toNat : Int)) ∧ w = w' := by
  obtain ⟨rfl, hlc, hcm, _, hb⟩ := hb
  have hm : l.length ≤ 9223372036854775807 := by omega
  clear hlc hcm
  go_enter Try.func14, Try.ntmps14
  go_wp2
  go_loop [5, 6] (fun x i => ∃ k : Nat, k ≤ l.length ∧ i = .int .i64 k ∧ x = .int .u32 ((reg (c ^^^ ones) (l.take k)).toNat : Int)) (fun _ i => l.length - (intOf i).toNat)
  case atStart => exact ⟨0, Nat.zero_le _, rfl, by rw [bv_not]; rfl⟩
  case round =>
    obtain ⟨k, hk, rfl, rfl⟩ := hrel
    by_cases hlt : k < l.length
    · rcases hb with h0 | ⟨b, off, rfl, hbs, hc⟩
      · omega
      have hck := hc k hlt
      have hv : (l[k].toNat : Int) < 256 := by have := l[k].toNat_lt; omega
      clear hc
      go_wp2
      go_loop [5, 7] (fun x i => ∃ j : Nat, j ≤ 8 ∧ i = .int .i64 j ∧ x = .int .u32 ((cstepN j (reg (c ^^^ ones) (l.take k) ^^^ ext l[k])).toNat : Int)) (fun _ i => 8 - (intOf i).toNat)
      case atStart => exact ⟨0, by omega, rfl, by rw [cstepN, ← bv_xor, ext_toNat]⟩
      case round =>
        obtain ⟨j, hj, rfl, rfl⟩ := hrel
        clear hck hv
        by_cases hlt8 : j < 8
        · generalize hz : cstepN j (reg (c ^^^ ones) (l.take k) ^^^ ext l[k]) = z
          have HZ := Lib.hid hz
          clear hz
          have h1 := bv_and1 z
          cases hb0 : z.getLsbD 0
          · rw [hb0] at h1
            simp only [Bool.false_eq_true, if_false] at h1
            go_wp2
            go_round
            case rel => exact ⟨j + 1, by omega, by go_num, by rw [cstepN_succ', HZ.out, bv_half, cstep, if_neg (by rw [hb0]; simp)]⟩
            case measure => simp [intOf]; omega
          · rw [hb0] at h1
            simp only [if_true] at h1
            go_wp2
            go_round
            case rel => exact ⟨j + 1, by omega, by go_num, by rw [cstepN_succ', HZ.out, bv_half, cstep, if_pos hb0, ← bv_xor]; rfl⟩
            case measure => simp [intOf]; omega
        · obtain rfl : j = 8 := by omega
          go_wp2
          go_round
          case rel => exact ⟨k + 1, by omega, by go_num, by rw [List.take_succ_eq_append_getElem hlt, reg_append]; rfl⟩
          case measure => simp [intOf]; omega
    · go_wp2
      go_ret
      exact ⟨ret_int (by rw [bv_not, List.take_of_length_le (by omega)]; rfl), rfl⟩

end Go.Proofs.Ytilfmmjjiiabgaa.CrcC

import Derived.Test.YtilgaacodacffaaA
namespace Go.Proofs.Ytilgaacodacffaa
open Go.RowKit Go.My CrcMath
theorem bv_not (c : BitVec 32) : bits .xor .u32 IntKind.u32.max (c.toNat : Int) = ((c ^^^ ones).toNat : Int) := by
  rw [BitVec.xor_comm, ← bv_xor]; rfl
theorem bv_and1 (c : BitVec 32) : bits .and .u32 (c.toNat : Int) 1 = if c.getLsbD 0 then 1 else 0 := by
  have h := bv_low c
  rw [show (1 : Int) = ((1#32 : BitVec 32).toNat : Int) from rfl, bv_and] at *
  have : (c &&& 1#32).toNat = c.toNat % 2 := by
    rw [BitVec.toNat_and]; simp [Nat.and_one_is_mod]
  rw [this] at *
  rw [BitVec.getLsbD, Nat.testBit_zero]
  simp
  split <;> omega
set_option maxHeartbeats 400000 in
theorem ref_bv (c : BitVec 32) (a : Option Addr) (len cap : Nat) (l : List UInt8) (w : World) (hb : Bytes w a len cap l) :
    Calls Try.prog 11 #[.int .u32 (c.toNat : Int), .slice a len cap] w fun e w' => e = .returned (.int .u32 ((crc c l).toNat : Int)) ∧ w = w' := by
  obtain ⟨rfl, hlc, hcm, _, hb⟩ := hb
  have hm : l.length ≤ 9223372036854775807 := by omega
  clear hlc hcm
  go_enter Try.func11, Try.ntmps11
  go_wp2
  go_loop [5, 6] (fun x i => ∃ k : Nat, k ≤ l.length ∧ i = .int .i64 k ∧ x = .int .u32 ((reg (c ^^^ ones) (l.take k)).toNat : Int)) (fun _ i => l.length - (intOf i).toNat)
  case atStart => exact ⟨0, Nat.zero_le _, rfl, by rw [bv_not]; rfl⟩
  case round =>
    obtain ⟨k, hk, rfl, rfl⟩ := hrel
    by_cases hlt : k < l.length
    · rcases hb with h0 | ⟨b, off, rfl, hbs, hc⟩
      · omega
      have hck := hc k hlt
      have hv : (l[k].toNat : Int) < 256 := by have := l[k].toNat_lt; omega
      clear hc
      go_wp2
      go_loop [5, 7] (fun x i => ∃ j : Nat, j ≤ 8 ∧ i = .int .i64 j ∧ x = .int .u32 ((cstepN j (reg (c ^^^ ones) (l.take k) ^^^ ext l[k])).toNat : Int)) (fun _ i => 8 - (intOf i).toNat)
      case atStart => exact ⟨0, by omega, rfl, by rw [cstepN, ← bv_xor, ext_toNat]⟩
      case round =>
        obtain ⟨j, hj, rfl, rfl⟩ := hrel
        clear hck hv
        by_cases hlt8 : j < 8
        · generalize hz : cstepN j (reg (c ^^^ ones) (l.take k) ^^^ ext l[k]) = z
          have HZ := Lib.hid hz
          clear hz
          have h1 := bv_and1 z
          cases hb0 : z.getLsbD 0
          · rw [hb0] at h1
            simp only [Bool.false_eq_true, if_false] at h1
            go_wp2
            go_round
            case rel => exact ⟨j + 1, by omega, by go_num, by rw [cstepN_succ', HZ.out, bv_half, cstep, if_neg (by rw [hb0]; simp)]⟩
            case measure => simp [intOf]; omega
          · rw [hb0] at h1
            simp only [if_true] at h1
            go_wp2
            go_round
            case rel => exact ⟨j + 1, by omega, by go_num, by rw [cstepN_succ', HZ.out, bv_half, cstep, if_pos hb0, ← bv_xor]; rfl⟩
            case measure => simp [intOf]; omega
        · obtain rfl : j = 8 := by omega
          go_wp2
          go_round
          case rel => exact ⟨k + 1, by omega, by go_num, by rw [List.take_succ_eq_append_getElem hlt, reg_append]; rfl⟩
          case measure => simp [intOf]; omega
    · go_wp2
      go_ret
      exact ⟨ret_int (by rw [bv_not, List.take_of_length_le (by omega)]; rfl), rfl⟩

def bitAt (j : Nat) : Nat := 4294967296 / 2 ^ (j + 1)
theorem bitAt_eq {j : Nat} (hj : j < 32) : bitAt j = 2 ^ (31 - j) := by
  unfold bitAt
  rw [show 4294967296 = 2 ^ 32 from rfl, Nat.pow_div (by omega) (by omega)]
  congr 1; omega
theorem bitAt_pos {j : Nat} (hj : j < 32) : 0 < bitAt j := by rw [bitAt_eq hj]; exact Nat.pow_pos (by omega)
theorem bitAt_le (j : Nat) : bitAt j ≤ 2147483648 := by
  unfold bitAt
  exact Nat.le_trans (Nat.div_le_div_left (show 2 ≤ 2 ^ (j + 1) from by rw [Nat.pow_succ]; have := Nat.pow_pos (n := j) (show 0 < 2 by omega); omega) (by omega)) (by omega)
theorem bitAt_succ (j : Nat) : bitAt j / 2 = bitAt (j + 1) := by unfold bitAt; rw [Nat.div_div_eq_div_mul, Nat.pow_succ 2 (j + 1)]
theorem bitAt_end : bitAt 32 = 0 := rfl

theorem and_pow (x k : Nat) : x &&& 2 ^ k = if x.testBit k then 2 ^ k else 0 := by
  apply Nat.eq_of_testBit_eq
  intro i
  rw [Nat.testBit_and, Nat.testBit_two_pow]
  by_cases h : k = i
  · subst h
    cases hx : x.testBit k <;> simp
  · cases hx : x.testBit k <;> simp [h]

theorem bv_bit (a : BitVec 32) (j : Nat) (hj : j < 32) : (bits .and .u32 (a.toNat : Int) (bitAt j : Int) != 0) = a.getLsbD (31 - j) := by
  have hlt : 2 ^ (31 - j) < 4294967296 := Nat.pow_lt_pow_right (by omega) (show 31 - j < 32 by omega)
  rw [bitAt_eq hj, u32_and_nat _ _ a.isLt hlt, BitVec.getLsbD, and_pow]
  have hp : 0 < 2 ^ (31 - j) := Nat.pow_pos (by omega)
  cases h : a.toNat.testBit (31 - j)
  · simp
  · have hne : (2 ^ (31 - j) : Nat) ≠ 0 := Nat.ne_of_gt hp
    simp only [if_true]
    rw [bne_iff_ne]
    exact fun hh => hne (by exact_mod_cast hh)

set_option maxHeartbeats 400000 in
theorem times_bv (c d : BitVec 32) (w : World) :
    Calls Try.prog 20 #[.int .u32 (c.toNat : Int), .int .u32 (d.toNat : Int)] w fun e w' => e = .returned (.int .u32 ((mulTo c d 32).toNat : Int)) ∧ w = w' := by
  go_enter Try.func20, Try.ntmps20
  go_wp2
  go_loop [1, 5, 6] (fun b s i => ∃ j : Nat, j ≤ 32 ∧ i = .int .u32 (bitAt j : Int) ∧ b = .int .u32 ((cstepN j d).toNat : Int) ∧ s = .int .u32 ((mulTo c d j).toNat : Int)) (fun _ _ i => (intOf i).toNat)
  case atStart => exact ⟨0, by omega, rfl, rfl, rfl⟩
  case round =>
    obtain ⟨j, hj, rfl, rfl, rfl⟩ := hrel
    by_cases hlt : j < 32
    · have hbit := bv_bit c j hlt
      have hpos := bitAt_pos hlt
      have hle := bitAt_le j
      cases hb : c.getLsbD (31 - j) <;> rw [hb] at hbit
      · have HB := Lib.hid hb
        clear hb
        go_wp2_with (go_at_call 18; refine (step_bv _ _).mono ?_; rintro e w' ⟨rfl, rfl⟩)
        go_round
        case rel => exact ⟨j + 1, by omega, by rw [← bitAt_succ]; simp, by rw [cstepN_succ'], by rw [mulTo, HB.out]; simp⟩
        case measure => simp [intOf]; omega
      · have HB := Lib.hid hb
        clear hb
        go_wp2_with (go_at_call 18; refine (step_bv _ _).mono ?_; rintro e w' ⟨rfl, rfl⟩)
        go_round
        case rel => exact ⟨j + 1, by omega, by rw [← bitAt_succ]; simp, by rw [cstepN_succ'], by rw [bv_xor, mulTo, HB.out]; rfl⟩
        case measure => simp [intOf]; omega
    · obtain rfl : j = 32 := by omega
      have hz := bitAt_end
      go_wp2
      go_ret
      exact ⟨rfl, rfl⟩

set_option maxHeartbeats 400000 in
theorem zeros_bv (c : BitVec 32) (n : Nat) (hn : n ≤ 9223372036854775807) (w : World) :
    Calls Try.prog 17 #[.int .u32 (c.toNat : Int), .int .i64 (n : Int)] w fun e w' => e = .returned (.int .u32 ((cstepN (8 * n) c).toNat : Int)) ∧ w = w' := by
  go_enter Try.func17, Try.ntmps17
  go_wp2
  go_loop [0, 1, 5] (fun r i p => ∃ (m k : Nat) (x : BitVec 32), m ≤ n ∧ i = .int .i64 (m : Int) ∧ p = .int .u32 ((cstepN k one).toNat : Int) ∧ r = .int .u32 (x.toNat : Int) ∧ Hid (cstepN (k * m) x = cstepN (8 * n) c)) (fun _ i _ => (intOf i).toNat)
  case atStart => exact ⟨n, 8, c, by omega, rfl, rfl, rfl, Lib.hid rfl⟩
  case round =>
    obtain ⟨m, k, x, hm, rfl, rfl, rfl, HX⟩ := hrel
    by_cases hlt : 0 < m
    · cases hb : decide (m % 2 = 1)
      · have hodd : ((m : Int) % 2 == 1) = false := by simp at hb; simp; omega
        go_wp2_with (go_at_call 20; refine (times_bv _ _ _).mono ?_; rintro e w' ⟨rfl, rfl⟩)
        go_round
        case rel => exact ⟨m / 2, k + k, x, by omega, by simp, by rw [mul_power, ← cstepN_add], rfl, Lib.hid (by rw [← HX.out]; congr 1; simp at hb; rw [← Nat.mul_two, Nat.mul_assoc]; congr 1; omega)⟩
        case measure => simp [intOf]; omega
      · have hodd : ((m : Int) % 2 == 1) = true := by simp at hb; simp; omega
        go_wp2_with fail
        refine (times_bv _ _ _).mono ?_
        rintro e w' ⟨rfl, rfl⟩
        go_wp2_with fail
        refine (times_bv _ _ _).mono ?_
        rintro e w' ⟨rfl, rfl⟩
        go_wp2_with fail
        go_round
        case rel => exact ⟨m / 2, k + k, cstepN k x, by omega, by simp, by rw [mul_power, ← cstepN_add], by rw [mul_power], Lib.hid (by rw [← HX.out, ← cstepN_add]; congr 1; simp at hb; rw [← Nat.mul_two, Nat.mul_assoc, Nat.add_comm, ← Nat.mul_succ]; congr 1; omega)⟩
        case measure => simp [intOf]; omega
    · obtain rfl : m = 0 := by omega
      go_wp2
      go_ret
      exact ⟨ret_int (by rw [← HX.out]; rfl), rfl⟩

set_option maxHeartbeats 400000 in
theorem combine_bv (c d : BitVec 32) (n : Nat) (hn : n ≤ 9223372036854775807) (w : World) :
    Calls Try.prog 14 #[.int .u32 (c.toNat : Int), .int .u32 (d.toNat : Int), .int .i64 (n : Int)] w fun e w' => e = .returned (.int .u32 ((cstepN (8 * n) c ^^^ d).toNat : Int)) ∧ w = w' := by
  go_enter Try.func14, Try.ntmps14
  go_wp2_with (go_at_call 17; refine (zeros_bv _ _ hn _).mono ?_; rintro e w' ⟨rfl, rfl⟩)
  go_ret
  exact ⟨ret_int (by rw [bv_xor]), rfl⟩

set_option maxHeartbeats 400000 in
theorem combine_neg (c d : BitVec 32) (n : Int) (hn : n < 0) (w : World) :
    Calls Try.prog 14 #[.int .u32 (c.toNat : Int), .int .u32 (d.toNat : Int), .int .i64 n] w fun e w' => e = .returned (.int .u32 (c.toNat : Int)) ∧ w = w' := by
  go_enter Try.func14, Try.ntmps14
  go_wp2
  go_ret
  exact ⟨rfl, rfl⟩
end Go.Proofs.Ytilgaacodacffaa

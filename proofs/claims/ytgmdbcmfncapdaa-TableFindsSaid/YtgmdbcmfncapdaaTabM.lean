/-
  TableMore's law.
-/
import Derived.Test.YtgmdbcmfncapdaaTabS
namespace Go.Proofs.Ytgmdbcmfncapdaa.TabC
open Go.RowKit Go.My BitMath CanMath TabMath CanC

section
variable {a : Option Addr} {len cap : Nat} {zs : List Int} {w : World}
set_option maxRecDepth 100000 in
set_option maxHeartbeats 2000000 in
theorem more_big (v u n : Int) (hlen : 100 < len) (hl : len ≤ 9223372036854775807) :
    Calls Try.prog 5 #[.slice a len cap, .int .u32 v, .int .u32 u, .int .i64 n] w fun e w' => e = .returned (.bool true) ∧ Below w.heap.size w w' := by
  go_enter Try.func5, Try.ntmps5
  go_wp2_with fail
  refine (told_any w).mono ?_
  rintro e w' ⟨rfl, hb⟩
  have HB := Lib.hid hb
  clear hb
  go_wp2_with fail
  go_ret
  exact ⟨rfl, HB.out⟩
set_option maxRecDepth 100000 in
set_option maxHeartbeats 2000000 in
theorem more_err (v u n q : Int) (h : RowIn w a len cap (zs.map iv)) (hE : NErr zs q) (hlen : len ≤ 100) :
    Calls Try.prog 5 #[.slice a len cap, .int .u32 v, .int .u32 u, .int .i64 n] w fun e w' => e = .returned (.bool true) ∧ Below w.heap.size w w' := by
  have HR := Lib.hid h
  have HE := Lib.hid hE
  have hq := hE.ne
  have hq2 : (q != 0) = true := by simp at hq ⊢; exact hq
  clear h hE
  go_enter Try.func5, Try.ntmps5
  go_wp2_with fail
  refine (HE.out.new _ _ _ _ _ HR.out).mono ?_
  rintro e w2 ⟨rfl, hb⟩
  have HB2 := Lib.hid hb
  clear hb HR HE
  go_wp2_with fail
  refine (told_any w2).mono ?_
  rintro e w4 ⟨rfl, hb⟩
  have HB4 := Lib.hid (HB2.out.trans (hb.mono HB2.out.size))
  clear hb
  go_wp2_with fail
  go_ret
  exact ⟨rfl, HB4.out⟩

theorem cl_nat (m : Nat) (h : m ≤ 15) : cl (m : Int) = m := by unfold cl; omega
/-- What is found is found with more bits. -/
theorem found_more {ls : List Nat} (hall : ∀ x ∈ ls, x ≤ 15) (hk : kr ls ≤ 32768) (v m : Nat) :
    ansV (who ls (v % 2 ^ m)) m = .tuple #[.int .i64 0, .int .i64 0, .int .i64 5] ∨ ((∃ x y z, ansV (who ls (v % 2 ^ m)) m = .tuple #[.int .i64 x, .int .i64 y, .int .i64 z] ∧ z ≠ 5) ∧ ansV (who ls (v % 2 ^ 15)) 15 = ansV (who ls (v % 2 ^ m)) m) := by
  rcases who_cases hall hk (v % 2 ^ m) with ⟨i, hi, e⟩ | ⟨hn, e⟩
  · have h15 := ln_le hall i
    have h1 := hi.1
    by_cases hlt : m < ln ls i
    · left
      rw [e]
      unfold ansV
      rw [if_neg (by dsimp only; omega), if_pos hlt]
    · right
      have hi2 : Has ls (v % 2 ^ 15) i := ⟨h1, by
        rw [mod_mod_pow v h15, ← mod_mod_pow v (show ln ls i ≤ m by omega)]; exact hi.2⟩
      have e2 := who_some hall hk hi2
      rw [e, e2]
      unfold ansV
      rw [if_neg (by dsimp only; omega), if_neg (by dsimp only; omega), if_neg (by dsimp only; omega), if_neg (by dsimp only; omega)]
      exact ⟨⟨_, _, _, rfl, by omega⟩, rfl⟩
  · right
    have hn2 : ∀ k, ¬ Has ls (v % 2 ^ 15) k := by
      intro k hk'
      have h15 := ln_le hall k
      by_cases hlt : m < ln ls k
      · have e3 : wd ls k % 2 ^ m = v % 2 ^ m := by rw [← hk'.2, mod_mod_pow v h15, mod_mod_pow v (by omega)]
        obtain ⟨j, hj⟩ := has_fill hall hk hlt e3
        exact hn j hj
      · exact hn k ⟨hk'.1, by rw [mod_mod_pow v (by omega), ← hk'.2, mod_mod_pow v h15]⟩
    rw [e, who_none hn2]
    exact ⟨⟨0, 0, 2, rfl, by omega⟩, rfl⟩
/-- Bits of one number below, of another one above. -/
theorem mixed (v u m : Nat) (hv : v < 4294967296) (hu : u < 4294967296) (hm : m ≤ 15) :
    ∃ x : Nat, x < 4294967296 ∧ x % 2 ^ m = v % 2 ^ m ∧ bits .or .u32 (bits .and .u32 (v : Int) (((2 : Int) ^ m - 1) % 4294967296)) (bits .andNot .u32 (u : Int) (((2 : Int) ^ m - 1) % 4294967296)) = (x : Int) := by
  have hp := pow_le15 hm
  have h0 := Nat.two_pow_pos m
  have e : ((2 : Int) ^ m - 1) % 4294967296 = ((2 ^ m - 1 : Nat) : Int) := by
    have e1 : (2 : Int) ^ m = ((2 ^ m : Nat) : Int) := by push_cast; rfl
    rw [e1]; omega
  rw [u32_low v m hv hm, e, u32_andNot_nat _ _ hu (by omega)]
  have h1 : u &&& (4294967295 - (2 ^ m - 1)) < 2 ^ 32 := Nat.lt_of_le_of_lt Nat.and_le_left (by omega)
  have h2 : v % 2 ^ m < 2 ^ 32 := by have := Nat.mod_lt v h0; omega
  refine ⟨v % 2 ^ m ||| (u &&& (4294967295 - (2 ^ m - 1))), Nat.or_lt_two_pow h2 h1, ?_, ?_⟩
  · apply Nat.eq_of_testBit_eq
    intro i
    rw [Nat.testBit_mod_two_pow, Nat.testBit_or, Nat.testBit_and, Nat.testBit_mod_two_pow]
    by_cases hi : i < m
    · have hb : (4294967295 - (2 ^ m - 1)).testBit i = false := by
        have e4 : 4294967295 - (2 ^ m - 1) = 2 ^ m * (2 ^ (32 - m) - 1) := by
          rw [Nat.mul_sub, ← Nat.pow_add, show m + (32 - m) = 32 from by omega]
          omega
        rw [e4, Nat.testBit_two_pow_mul]
        simp; omega
      simp [hi, hb]
    · simp [hi]
  · rw [u32_or_nat _ _ h2 h1]

theorem size_16 (n : Int) : ∃ m : Nat, m ≤ 15 ∧ (IntKind.u64.wrap n).tmod 16 = (m : Int) := by
  refine ⟨((IntKind.u64.wrap n) % 16).toNat, by omega, ?_⟩
  rw [Int.tmod_eq_emod_of_nonneg (by rw [IntKind.wrap_u64]; omega)]
  omega
set_option maxRecDepth 100000 in
set_option maxHeartbeats 8000000 in
theorem more_ok (v u : Nat) (n : Int) (h : RowIn w a len cap (zs.map iv)) (hv : v < 4294967296) (hu : u < 4294967296) (hg : CanC.Good zs) (hk : kr (nat zs) ≤ 32768) (hlen : len ≤ 100) :
    Calls Try.prog 5 #[.slice a len cap, .int .u32 (v : Int), .int .u32 (u : Int), .int .i64 n] w fun e w' => e = .returned (.bool true) ∧ Below w.heap.size w w' := by
  have HR := Lib.hid h
  have HG := Lib.hid hg
  have HK := Lib.hid hk
  obtain ⟨m, hm, u1⟩ := size_16 n
  obtain ⟨x, hx, hxm, u2⟩ := mixed v u m hv hu hm
  have HXM := Lib.hid hxm
  have HFM := Lib.hid (found_more hg.all hk x m)
  clear h hg hk hxm
  go_enter Try.func5, Try.ntmps5
  go_wp2_with fail
  refine (new_ok 6 HR.out HG.out HK.out (by omega) (by omega)).mono ?_
  rintro e w2 ⟨g, rfl, ht, hb⟩
  have HB2 := Lib.hid hb
  have HT2 := Lib.hid ht
  clear hb ht HR
  rcases HFM.out with hf | ⟨⟨r1, r2, r3, hf, hf5⟩, hf2⟩
  · have HF := Lib.hid hf
    clear hf
    go_wp2_with fail
    refine (find_is (v := v) (n := (m : Int)) HT2.out HG.out HK.out (by omega) (by omega) hv).mono ?_
    rw [cl_nat m hm, ← HXM.out, HF.out]
    rintro e w3 ⟨rfl, hb⟩
    have HB3 := Lib.hid (HB2.out.trans (hb.mono HB2.out.size))
    have HT3 := Lib.hid (HT2.out.below hb)
    clear hb HB2 HT2
    go_wp2_with fail
    refine (find_is (v := x) (n := (m : Int)) HT3.out HG.out HK.out (by omega) (by omega) hx).mono ?_
    rw [cl_nat m hm, HF.out]
    rintro e w4 ⟨rfl, hb⟩
    have HB4 := Lib.hid (HB3.out.trans (hb.mono HB3.out.size))
    have HT4 := Lib.hid (HT3.out.below hb)
    clear hb HB3 HT3
    go_wp2_with fail
    refine (find_is (v := x) (n := 15) HT4.out HG.out HK.out (by omega) (by omega) hx).mono ?_
    obtain ⟨r1, r2, r3, hr⟩ := ansV_tuple (who (nat zs) (x % 2 ^ cl 15)) (cl 15)
    rw [hr]
    clear hr
    rintro e w5 ⟨rfl, hb⟩
    have HB5 := Lib.hid (HB4.out.trans (hb.mono HB4.out.size))
    clear hb HB4 HT4
    go_wp2_with fail
    refine (told_any w5).mono ?_
    rintro e w6 ⟨rfl, hb⟩
    have HB6 := Lib.hid (HB5.out.trans (hb.mono HB5.out.size))
    clear hb
    go_wp2_with fail
    go_ret
    exact ⟨rfl, HB6.out⟩
  · have HF := Lib.hid hf
    have HF2 := Lib.hid hf2
    have g5 : (r3 == 5) = false := by simp; omega
    clear hf hf2
    go_wp2_with fail
    refine (find_is (v := v) (n := (m : Int)) HT2.out HG.out HK.out (by omega) (by omega) hv).mono ?_
    rw [cl_nat m hm, ← HXM.out, HF.out]
    rintro e w3 ⟨rfl, hb⟩
    have HB3 := Lib.hid (HB2.out.trans (hb.mono HB2.out.size))
    have HT3 := Lib.hid (HT2.out.below hb)
    clear hb HB2 HT2
    go_wp2_with fail
    refine (find_is (v := x) (n := (m : Int)) HT3.out HG.out HK.out (by omega) (by omega) hx).mono ?_
    rw [cl_nat m hm, HF.out]
    rintro e w4 ⟨rfl, hb⟩
    have HB4 := Lib.hid (HB3.out.trans (hb.mono HB3.out.size))
    have HT4 := Lib.hid (HT3.out.below hb)
    clear hb HB3 HT3
    go_wp2_with fail
    refine (find_is (v := x) (n := 15) HT4.out HG.out HK.out (by omega) (by omega) hx).mono ?_
    rw [show cl 15 = 15 from rfl, HF2.out, HF.out]
    rintro e w5 ⟨rfl, hb⟩
    have HB5 := Lib.hid (HB4.out.trans (hb.mono HB4.out.size))
    clear hb HB4 HT4
    go_wp2_with fail
    refine (told_any w5).mono ?_
    rintro e w6 ⟨rfl, hb⟩
    have HB6 := Lib.hid (HB5.out.trans (hb.mono HB5.out.size))
    clear hb
    go_wp2_with fail
    go_ret
    exact ⟨rfl, HB6.out⟩
theorem more_law (v u : Nat) (n : Int) (h : RowIn w a len cap (zs.map iv)) (hv : v < 4294967296) (hu : u < 4294967296) :
    Calls Try.prog 5 #[.slice a len cap, .int .u32 (v : Int), .int .u32 (u : Int), .int .i64 n] w fun e w' => e = .returned (.bool true) ∧ Below w.heap.size w w' := by
  by_cases hb : 100 < len
  · exact more_big v u n hb (Nat.le_trans h.le_cap h.cap_le)
  · by_cases hg : CanC.Good zs
    · by_cases hk : kr (nat zs) ≤ 32768
      · exact more_ok v u n h hv hu hg hk (by omega)
      · exact more_err v u n _ h (nerr_over hg (by omega)) (by omega)
    · exact more_err v u n _ h (nerr_bad hg) (by omega)
end
end Go.Proofs.Ytgmdbcmfncapdaa.TabC

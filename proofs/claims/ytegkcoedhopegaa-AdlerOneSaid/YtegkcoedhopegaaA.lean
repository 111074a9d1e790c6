import Derived.Test.YtegkcoedhopegaaRows
import Derived.Test.YtegkcoedhopegaaLib
import Derived.Test.YtegkcoedhopegaaAMath
namespace Go.Proofs.Ytegkcoedhopegaa
open Go.RowKit Go.My AdlerMath

theorem and_16 (c : Nat) (hc : c < 4294967296) : bits .and .u32 (c : Int) 65535 = ((c % 65536 : Nat) : Int) := by
  rw [show (65535 : Int) = ((65535 : Nat) : Int) from rfl, u32_and_nat _ _ hc (by omega)]
  congr 1
  exact Nat.and_two_pow_sub_one_eq_mod c 16
theorem or_16 (x y : Nat) (hx : x < 65536) (hy : y < 65536) : bits .or .u32 ((y : Int) * 65536) (x : Int) = ((y * 65536 + x : Nat) : Int) := by
  rw [show (y : Int) * 65536 = ((y * 65536 : Nat) : Int) from by omega, u32_or_nat _ _ (by omega) (by omega)]
  congr 1
  have := Nat.shiftLeft_add_eq_or_of_lt (i := 16) (a := y) (b := x) (by omega)
  rw [Nat.shiftLeft_eq] at this
  exact this.symm

theorem ret_two {a b c d : Int} (h1 : a = c) (h2 : b = d) : Ending.returned (.tuple #[.int .u32 a, .int .u32 b]) = .returned (.tuple #[.int .u32 c, .int .u32 d]) := by rw [h1, h2]

set_option maxHeartbeats 400000 in
theorem halves_any (c : Nat) (w : World) (hc : c < 4294967296) :
    Calls Try.prog 12 #[.int .u32 (c : Int)] w fun e w' => e = .returned (.tuple #[.int .u32 ((c % 65536 % 65521 : Nat) : Int), .int .u32 ((c / 65536 % 65521 : Nat) : Int)]) ∧ w = w' := by
  have e := and_16 c hc
  go_enter Try.func12, Try.ntmps12
  go_wp2
  go_ret2
  exact ⟨ret_two (by omega) (by omega), rfl⟩
set_option maxHeartbeats 400000 in
theorem whole_any (x y : Nat) (w : World) (hx : x < 65521) (hy : y < 65521) :
    Calls Try.prog 14 #[.int .u32 (x : Int), .int .u32 (y : Int)] w fun e w' => e = .returned (.int .u32 ((y * 65536 + x : Nat) : Int)) ∧ w = w' := by
  have e := or_16 x y (by omega) (by omega)
  go_enter Try.func14, Try.ntmps14
  go_wp2
  go_ret
  exact ⟨ret_int rfl, rfl⟩

theorem whole_at (x y : Int) (p q : Nat) (w : World) (hx : x = (p : Int)) (hy : y = (q : Int)) (hp : p < 65521) (hq : q < 65521) :
    Calls Try.prog 14 #[.int .u32 x, .int .u32 y] w fun e w' => e = .returned (.int .u32 ((q * 65536 + p : Nat) : Int)) ∧ w = w' := by
  subst hx hy; exact whole_any p q w hp hq

set_option maxHeartbeats 1000000 in
theorem add_any (x y : Nat) (a : Option Addr) (len cap : Nat) (l : List UInt8) (w : World) (hx : x < 65521) (hy : y < 65521) (hl : l.length ≤ 5552) (hb : Bytes w a len cap l) :
    Calls Try.prog 13 #[.int .u32 (x : Int), .int .u32 (y : Int), .slice a len cap] w fun e w' => e = .returned (.tuple #[.int .u32 (((x + S l) % 65521 : Nat) : Int), .int .u32 (((y + l.length * x + T l) % 65521 : Nat) : Int)]) ∧ w = w' := by
  obtain ⟨rfl, hlc, hcm, _, hb⟩ := hb
  clear hlc hcm
  go_enter Try.func13, Try.ntmps13
  go_wp2
  go_loop [0, 1, 11] (fun vx vy i => ∃ k p q : Nat, k ≤ l.length ∧ i = .int .i64 k ∧ vx = .int .u32 (p : Int) ∧ vy = .int .u32 (q : Int) ∧ Hid (p = x + S (l.take k)) ∧ Hid (q = y + k * x + T (l.take k))) (fun _ _ i => l.length - (intOf i).toNat)
  case atStart => exact ⟨0, x, y, Nat.zero_le _, rfl, rfl, rfl, Lib.hid (by simp [S]), Lib.hid (by simp [T])⟩
  case round =>
    obtain ⟨k, p, q, hk, rfl, rfl, rfl, HP, HQ⟩ := hrel
    by_cases hlt : k < l.length
    · rcases hb with h0 | ⟨b, off, rfl, hbs, hc⟩
      · omega
      have hck := hc k hlt
      have hv : (l[k].toNat : Int) < 256 := by have := l[k].toNat_lt; omega
      have hp : Hid (p + l[k].toNat = x + S (l.take (k + 1))) := Lib.hid (by rw [S_snoc l k hlt, HP.out]; omega)
      have hq : Hid (q + (p + l[k].toNat) = y + (k + 1) * x + T (l.take (k + 1))) := Lib.hid (by rw [T_snoc l k hlt, HQ.out, HP.out, Nat.add_mul]; omega)
      have hbd := bounds x y hx hy (l.take (k + 1)) (by simp; omega)
      rw [show (l.take (k + 1)).length = k + 1 from by simp; omega, ← hp.out, ← hq.out] at hbd
      obtain ⟨hb1, hb2⟩ := hbd
      clear hc HP HQ
      go_wp2
      go_round
      case rel => exact ⟨k + 1, p + l[k].toNat, q + (p + l[k].toNat), by omega, by go_num, by go_num, by go_num, hp, hq⟩
      case measure => simp [intOf]; omega
    · obtain rfl : k = l.length := by omega
      rw [List.take_length] at HP HQ
      have hbd := bounds x y hx hy l hl
      rw [← HP.out, ← HQ.out] at hbd
      obtain ⟨hb1, hb2⟩ := hbd
      go_wp2
      go_ret2
      exact ⟨ret_two (by have h := congrArg (fun n : Nat => ((n % 65521 : Nat) : Int)) HP.out; simpa using h) (by have h := congrArg (fun n : Nat => ((n % 65521 : Nat) : Int)) HQ.out; simpa using h), rfl⟩

def sliceLen : Value → Nat | .slice _ n _ => n | _ => 0

set_option maxRecDepth 100000 in
set_option maxHeartbeats 1000000 in
theorem update_any (c : Nat) (a : Option Addr) (len cap : Nat) (l : List UInt8) (w : World) (hc : c < 4294967296) (hb : Bytes w a len cap l) :
    Calls Try.prog 8 #[.int .u32 (c : Int), .slice a len cap] w fun e w' => e = .returned (.int .u32 ((adler c l : Nat) : Int)) ∧ w = w' := by
  have H := Lib.hid hb
  clear hb
  go_enter Try.func8, Try.ntmps8
  go_wp2_with fail
  refine (halves_any c w hc).mono ?_
  rintro e w' ⟨rfl, rfl⟩
  go_wp2_with fail
  go_loop [1, 5, 6] (fun b x y => ∃ (a : Option Addr) (len cap : Nat) (l1 l2 : List UInt8), b = .slice a len cap ∧ Hid (Bytes w a len cap l2) ∧ Hid (l = l1 ++ l2) ∧ x = .int .u32 ((lo c l1 : Nat) : Int) ∧ y = .int .u32 ((hi c l1 : Nat) : Int)) (fun b _ _ => sliceLen b)
  case atStart => exact ⟨a, len, cap, [], l, rfl, H, Lib.hid rfl, by simp [lo, S], by simp [hi, T]⟩
  case round =>
    clear H
    obtain ⟨a, len, cap, l1, l2, rfl, HB, HL, rfl, rfl⟩ := hrel
    have hlo := lo_lt c l1
    have hhi := hi_lt c l1
    have hcap := HB.out.cap_le
    have hlc := HB.out.le_cap
    have HLEN := Lib.hid HB.out.len_eq
    by_cases hlt : 5552 < len
    · obtain ⟨b, off, rfl⟩ := HB.out.some_ (by omega)
      go_wp2_with fail
      refine (add_any _ _ _ _ _ (l2.take 5552) w hlo hhi (by simp; omega) (HB.out.take 5552 (by omega))).mono ?_
      rintro e w' ⟨rfl, rfl⟩
      rw [add_lo, add_hi]
      go_wp2_with fail
      go_round
      case rel => exact ⟨_, _, _, l1 ++ l2.take 5552, l2.drop 5552, rfl, Lib.hid (HB.out.drop 5552 (by omega)), Lib.hid (by rw [HL.out, List.append_assoc, List.take_append_drop]), rfl, rfl⟩
      case measure => simp [sliceLen]; omega
    · go_wp2_with fail
      refine (add_any _ _ _ _ _ l2 w hlo hhi (by have := HLEN.out; omega) HB.out).mono ?_
      rintro e w' ⟨rfl, rfl⟩
      rw [add_lo, add_hi]
      go_wp2_with fail
      refine (whole_any _ _ w (lo_lt _ _) (hi_lt _ _)).mono ?_
      rintro e w' ⟨rfl, rfl⟩
      go_wp2_with fail
      go_ret
      exact ⟨ret_int (by rw [← HL.out]; rfl), rfl⟩

theorem sum_any (a : Option Addr) (len cap : Nat) (l : List UInt8) (w : World) (hb : Bytes w a len cap l) :
    Calls Try.prog 10 #[.slice a len cap] w fun e w' => e = .returned (.int .u32 ((adler 1 l : Nat) : Int)) ∧ w = w' := by
  have H := Lib.hid hb
  clear hb
  go_enter Try.func10, Try.ntmps10
  go_wp2_with fail
  refine (update_any 1 _ _ _ l w (by omega) H.out).mono ?_
  rintro e w' ⟨rfl, rfl⟩
  go_wp2_with fail
  go_ret
  exact ⟨rfl, rfl⟩

set_option maxHeartbeats 1000000 in
theorem ref_any (c : Nat) (a : Option Addr) (len cap : Nat) (l : List UInt8) (w : World) (hc : c < 4294967296) (hb : Bytes w a len cap l) :
    Calls Try.prog 9 #[.int .u32 (c : Int), .slice a len cap] w fun e w' => e = .returned (.int .u32 ((adler c l : Nat) : Int)) ∧ w = w' := by
  obtain ⟨rfl, hlc, hcm, _, hb⟩ := hb
  have hm : l.length ≤ 9223372036854775807 := by omega
  clear hlc hcm
  have e := and_16 c hc
  go_enter Try.func9, Try.ntmps9
  go_wp2
  go_loop [5, 6, 7] (fun x y i => ∃ (k : Nat), k ≤ l.length ∧ i = .int .i64 k ∧ x = .int .u32 ((lo c (l.take k) : Nat) : Int) ∧ y = .int .u32 ((hi c (l.take k) : Nat) : Int)) (fun _ _ i => l.length - (intOf i).toNat)
  case atStart => exact ⟨0, Nat.zero_le _, rfl, by simp [lo, S], by simp [hi, T]⟩
  case round =>
    clear e
    obtain ⟨k, hk, rfl, rfl, rfl⟩ := hrel
    have hlo := lo_lt c (l.take k)
    have hhi := hi_lt c (l.take k)
    by_cases hlt : k < l.length
    · rcases hb with h0 | ⟨b, off, rfl, hbs, hc⟩
      · omega
      have hck := hc k hlt
      have hv : (l[k].toNat : Int) < 256 := by have := l[k].toNat_lt; omega
      have e1 : Hid (lo c (l.take (k + 1)) = (lo c (l.take k) + l[k].toNat) % 65521) := Lib.hid (by
        rw [List.take_succ_eq_append_getElem hlt, ← add_lo]; simp [S])
      have e2 : Hid (hi c (l.take (k + 1)) = (hi c (l.take k) + (lo c (l.take k) + l[k].toNat) % 65521) % 65521) := Lib.hid (by
        rw [List.take_succ_eq_append_getElem hlt, ← add_hi]; simp [T]; omega)
      clear hc
      go_wp2
      go_round
      case rel => exact ⟨k + 1, by omega, by go_num, by rw [e1.out]; go_num, by rw [e2.out]; go_num⟩
      case measure => simp [intOf]; omega
    · obtain rfl : k = l.length := by omega
      rw [List.take_length] at *
      have e := or_16 (lo c l) (hi c l) (by omega) (by omega)
      go_wp2
      go_ret
      exact ⟨ret_int rfl, rfl⟩

set_option maxRecDepth 100000 in
set_option maxHeartbeats 1000000 in
theorem combine_any (a b n : Nat) (w : World) (ha : a < 4294967296) (hb : b < 4294967296) (hn : n ≤ 9223372036854775807) :
    Calls Try.prog 11 #[.int .u32 (a : Int), .int .u32 (b : Int), .int .i64 (n : Int)] w fun e w' => e = .returned (.int .u32 ((comb a b n : Nat) : Int)) ∧ w = w' := by
  go_enter Try.func11, Try.ntmps11
  go_wp2_with fail
  refine (halves_any a w ha).mono ?_
  rintro e w' ⟨rfl, rfl⟩
  go_wp2_with fail
  refine (halves_any b w hb).mono ?_
  rintro e w' ⟨rfl, rfl⟩
  go_wp2_with fail
  refine (whole_at _ _ (combLo a b) (combHi a b n) w (combLo_int a b) (combHi_int a b n) (Nat.mod_lt _ (by omega)) (Nat.mod_lt _ (by omega))).mono ?_
  rintro e w' ⟨rfl, rfl⟩
  go_wp2_with fail
  go_ret
  exact ⟨rfl, rfl⟩
theorem combine_neg (a b : Int) (w : World) :
    Calls Try.prog 11 #[.int .u32 a, .int .u32 b, .int .i64 (-1)] w fun e w' => e = .returned (.int .u32 a) ∧ w = w' := by
  go_enter Try.func11, Try.ntmps11
  go_wp2
  go_ret
  exact ⟨rfl, rfl⟩
end Go.Proofs.Ytegkcoedhopegaa

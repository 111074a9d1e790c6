/-
  Sums of floats that need not be exact, held between whole numbers; a minus sign. No program.
-/
import Derived.Test.YtdilhbodokbnoaaDoorFlt
namespace Go.My.Flt
open Ieee

theorem cut_even (s : Bool) (m d : Nat) (hd : d ≤ m.log2 + 2) : ∃ more : Nat, Toward.even.cut s m d = m / 2 ^ d + more ∧ more ≤ 1 ∧ (m % 2 ^ d = 0 → more = 0) := by
  unfold Toward.cut
  have hm : min d (m.log2 + 2) = d := by omega
  simp only [hm, Nat.shiftLeft_eq, Nat.one_mul]
  refine ⟨_, rfl, Bool.toNat_le _, fun h => ?_⟩
  rw [h]
  have := Nat.two_pow_pos d
  simp

/-- What is read of what is written of a number from n to n + 1. -/
theorem near_between (m : Nat) (c n : Nat) (hm : m ≠ 0) (hn : n ≤ 20) (h1 : n * U ≤ m * 2 ^ c) (h2 : m * 2 ^ c ≤ (n + 1) * U) :
    isNaN (D.nearest false m ((c : Int) - 1074)) = false ∧ ((n : Int) * (U : Int) ≤ K (D.nearest false m ((c : Int) - 1074)) ∧ K (D.nearest false m ((c : Int) - 1074)) ≤ ((n : Int) + 1) * (U : Int)) := by
  obtain ⟨l, hl⟩ : ∃ l, m.log2 = l := ⟨_, rfl⟩
  have hl1 : 2 ^ l ≤ m := by rw [← hl]; exact Nat.log2_self_le hm
  have hl2 : m < 2 ^ (l + 1) := by rw [← hl]; exact Nat.lt_log2_self
  have hlc : l + c < 1079 := by
    have : 2 ^ (l + c) < 2 ^ (e1074 + 5) := by
      rw [Nat.pow_add]
      refine Nat.lt_of_le_of_lt (Nat.le_trans (Nat.mul_le_mul_right _ hl1) h2) ?_
      rw [U_eq, Nat.pow_add, Nat.mul_comm]
      exact Nat.mul_lt_mul_of_pos_left (by omega) (Nat.two_pow_pos _)
    have := (Nat.pow_lt_pow_iff_right (by omega : 1 < 2)).1 this
    rw [e1074_eq] at this
    omega
  suffices h : ∃ M E : Nat, D.read (D.nearest false m ((c : Int) - 1074)) = .number false M ((E : Int) - 1074) ∧ n * U ≤ M * 2 ^ E ∧ M * 2 ^ E ≤ (n + 1) * U by
    obtain ⟨M, E, hr, a1, a2⟩ := h
    refine ⟨by unfold isNaN; rw [hr]; rfl, ?_⟩
    rw [K_num hr, if_neg (by simp), show ((E : Int) - 1074 + 1074).toNat = E by omega]
    have b1 := Int.ofNat_le.2 a1
    have b2 := Int.ofNat_le.2 a2
    push_cast at b1 b2
    exact ⟨b1, b2⟩
  by_cases h52 : l ≤ 52
  · have hk : m < 9007199254740992 := Nat.lt_of_lt_of_le hl2 (Nat.pow_le_pow_right (by omega) (by omega : l + 1 ≤ 53))
    have hr := nearest_read false m ((c : Int) - 1074) hm hk (by omega) (by omega)
    obtain ⟨L, hL⟩ : ∃ L : Int, last m ((c : Int) - 1074) = L := ⟨_, rfl⟩
    have hL1 : -1074 ≤ L ∧ L ≤ (c : Int) - 1074 := by rw [← hL]; unfold last; rw [hl]; omega
    rw [hL] at hr
    refine ⟨_, (L + 1074).toNat, by rw [show (((L + 1074).toNat : Nat) : Int) - 1074 = L by omega]; exact hr, ?_⟩
    rw [Nat.mul_assoc, ← Nat.pow_add, show ((c : Int) - 1074 - L).toNat + (L + 1074).toNat = c by omega]
    exact ⟨h1, h2⟩
  · obtain ⟨d, hd⟩ : ∃ d, l = 52 + d := ⟨l - 52, by omega⟩
    obtain ⟨more, hc, hc1, hc2⟩ := cut_even false m d (by rw [hl]; omega)
    have hd0 := Nat.two_pow_pos d
    have hq1 : 4503599627370496 ≤ m / 2 ^ d := (Nat.le_div_iff_mul_le hd0).2 (by rw [show (4503599627370496 : Nat) = 2 ^ 52 from rfl, ← Nat.pow_add, ← hd]; exact hl1)
    have hq2 : m / 2 ^ d < 9007199254740992 := (Nat.div_lt_iff_lt_mul hd0).2 (by rw [show (9007199254740992 : Nat) = 2 ^ 53 from rfl, ← Nat.pow_add, show 53 + d = l + 1 by omega]; exact hl2)
    obtain ⟨kept, hkept⟩ : ∃ kept, kept = m / 2 ^ d + more := ⟨_, rfl⟩
    have hmax : max ((c : Int) - 1074 + (m.log2 : Nat) - (D.fractionBits : Nat)) (-1074) = ((c + d : Nat) : Int) - 1074 := by rw [hl, frac_eq]; omega
    have hw : D.nearest false m ((c : Int) - 1074) = D.word false ((c + d) * 4503599627370496 + kept) := by
      unfold Format.nearest
      rw [if_neg hm]
      simp only [least_eq]
      rw [hmax, show ((c : Int) - 1074 - (((c + d : Nat) : Int) - 1074)).toNat = 0 by omega, show (((c + d : Nat) : Int) - 1074 - ((c : Int) - 1074)).toNat = d by omega, Nat.shiftLeft_zero, hc, ← hkept, binade_eq, inf_eq,
        show (((c + d : Nat) : Int) - 1074 - -1074).toNat = c + d by omega, Nat.min_eq_left (by omega)]
    have hr : ∃ M E : Nat, D.read (D.word false ((c + d) * 4503599627370496 + kept)) = .number false M ((E : Int) - 1074) ∧ M * 2 ^ E = kept * 2 ^ (c + d) := by
      rw [read_word _ _ (by omega), if_neg (by omega), if_pos (by omega)]
      by_cases hk : kept = 9007199254740992
      · refine ⟨4503599627370496, c + d + 1, ?_, ?_⟩
        · congr 1 <;> omega
        · rw [hk, Nat.pow_succ, Nat.mul_comm (2 ^ (c + d)) 2, ← Nat.mul_assoc]
      · refine ⟨kept, c + d, ?_, rfl⟩
        congr 1 <;> omega
    obtain ⟨M, E, hr, hv⟩ := hr
    refine ⟨M, E, by rw [hw]; exact hr, ?_⟩
    rw [hv]
    obtain ⟨g, hg⟩ : ∃ g, e1074 = c + d + g := ⟨e1074 - (c + d), by rw [e1074_eq]; omega⟩
    have hU : U = 2 ^ g * 2 ^ d * 2 ^ c := by rw [U_eq, hg, ← Nat.pow_add, ← Nat.pow_add]; congr 1; omega
    have hc0 := Nat.two_pow_pos c
    have a1 : n * 2 ^ g * 2 ^ d ≤ m := by
      have : n * 2 ^ g * 2 ^ d * 2 ^ c ≤ m * 2 ^ c := by rw [Nat.mul_assoc, Nat.mul_assoc, ← Nat.mul_assoc (2 ^ g), ← hU]; exact h1
      exact Nat.le_of_mul_le_mul_right this hc0
    have a2 : m ≤ (n + 1) * 2 ^ g * 2 ^ d := by
      have : m * 2 ^ c ≤ (n + 1) * 2 ^ g * 2 ^ d * 2 ^ c := by rw [Nat.mul_assoc ((n + 1) * 2 ^ g), Nat.mul_assoc (n + 1), ← Nat.mul_assoc (2 ^ g), ← hU]; exact h2
      exact Nat.le_of_mul_le_mul_right this hc0
    have b1 : n * 2 ^ g ≤ kept := by
      have := (Nat.le_div_iff_mul_le hd0).2 a1
      omega
    have b2 : kept ≤ (n + 1) * 2 ^ g := by
      by_cases he : m = (n + 1) * 2 ^ g * 2 ^ d
      · have e1 : m / 2 ^ d = (n + 1) * 2 ^ g := by rw [he]; exact Nat.mul_div_cancel _ hd0
        have e2 : more = 0 := hc2 (by rw [he]; exact Nat.mul_mod_left _ _)
        omega
      · have : m / 2 ^ d < (n + 1) * 2 ^ g := (Nat.div_lt_iff_lt_mul hd0).2 (by omega)
        omega
    have hU2 : U = 2 ^ g * 2 ^ (c + d) := by rw [hU, Nat.pow_add, Nat.mul_assoc, Nat.mul_comm (2 ^ d)]
    rw [hU2, ← Nat.mul_assoc, ← Nat.mul_assoc]
    exact ⟨Nat.mul_le_mul_right _ b1, Nat.mul_le_mul_right _ b2⟩

theorem zero_word : K 0 = 0 := by have := K_fl 0 (by decide); rw [fl_zero] at this; omega
/-- A sum that lies from n to n + 1. -/
theorem add_between (a b n : Nat) (ha : fin a) (hb : fin b) (hn : n ≤ 20) (h1 : (n : Int) * (U : Int) ≤ K a + K b) (h2 : K a + K b ≤ ((n : Int) + 1) * (U : Int)) :
    ∃ r, D.add a b = some r ∧ isNaN r = false ∧ (n : Int) * (U : Int) ≤ K r ∧ K r ≤ ((n : Int) + 1) * (U : Int) := by
  obtain ⟨s, m, i, hr⟩ := ha
  obtain ⟨t, k, j, hr2⟩ := hb
  have hi := (read_num _ hr).1
  have hj := (read_num _ hr2).1
  unfold K at h1 h2
  unfold Format.add
  rw [hr, hr2] at h1 h2
  rw [hr, hr2]
  unfold Datum.sum
  simp only
  have hbase : -1074 ≤ min i j := by omega
  have h3 : (signed s m (i - min i j).toNat + signed t k (j - min i j).toNat) * 2 ^ (min i j + 1074).toNat = val (.number s m i) + val (.number t k j) := by
    rw [Int.add_mul, scaled _ _ _ _ (by omega) hbase, scaled _ _ _ _ (by omega) hbase]
  rw [← h3] at h1 h2
  clear h3
  generalize signed s m (i - min i j).toNat + signed t k (j - min i j).toNat = T at *
  generalize min i j = base at *
  obtain ⟨c, hc⟩ : ∃ c : Nat, base = (c : Int) - 1074 := ⟨(base + 1074).toNat, by omega⟩
  rw [show (base + 1074).toNat = c by omega] at h1 h2
  have hp := pow2_pos c
  have hU := U_pos
  have hT0 : 0 ≤ T := by
    have h5 : 0 ≤ T * 2 ^ c := Int.le_trans (Int.mul_nonneg (by omega) (by omega)) h1
    exact Int.nonneg_of_mul_nonneg_left h5 hp
  simp only [Option.map_some]
  refine ⟨_, rfl, ?_⟩
  by_cases h0 : T = 0
  · subst h0
    rw [Int.zero_mul] at h1 h2
    have hw : ∀ s : Bool, isNaN (D.write (.number s (Int.natAbs 0) base)) = false ∧ K (D.write (.number s (Int.natAbs 0) base)) = 0 := fun s => by
      show isNaN (D.nearest s 0 base) = false ∧ K (D.nearest s 0 base) = 0
      rw [nearest_zero]
      cases s
      · exact ⟨by decide, zero_word⟩
      · refine ⟨by decide, ?_⟩
        rw [K_num (s := true) (m := 0) (e := -1074) (by decide)]
        simp
    rw [if_pos rfl]
    refine ⟨(hw _).1, ?_⟩
    rw [(hw _).2]
    exact ⟨h1, h2⟩
  · rw [if_neg h0, decide_eq_false (by omega)]
    show isNaN (D.nearest false T.natAbs base) = false ∧ _ ≤ K (D.nearest false T.natAbs base) ∧ K (D.nearest false T.natAbs base) ≤ _
    obtain ⟨M, hM⟩ : ∃ M : Nat, T = (M : Int) := ⟨T.natAbs, by omega⟩
    subst hM
    rw [hc, Int.natAbs_natCast]
    refine near_between M c n (by omega) hn ?_ ?_
    · apply Int.ofNat_le.1; push_cast; exact h1
    · apply Int.ofNat_le.1; push_cast; exact h2
theorem sub_self (p : Nat) (hp : fin p) : D.sub p p = some 0 := by
  obtain ⟨s, m, i, hr⟩ := hp
  unfold Format.sub
  rw [hr]
  unfold Datum.sum Datum.opposite
  simp only
  have h : signed s m (i - min i i).toNat + signed (!s) m (i - min i i).toNat = 0 := by
    unfold signed
    cases s <;> simp <;> omega
  rw [h]
  simp only [if_true, Option.map_some]
  congr 1
  show D.nearest (s && !s) 0 _ = 0
  rw [nearest_zero]
  cases s <;> decide
/-- A minus sign. -/
theorem read_neg (x : Nat) : D.read (Op.negFloat .f64 x) = (D.read x).opposite := by
  show D.read (x ^^^ 2 ^ 63) = _
  have e1 : (x ^^^ 2 ^ 63) % 9223372036854775808 = x % 9223372036854775808 := by
    rw [show (9223372036854775808 : Nat) = 2 ^ 63 from rfl, Nat.xor_mod_two_pow, Nat.mod_self, Nat.xor_zero]
  have e2 : (x ^^^ 2 ^ 63) / 9223372036854775808 % 2 = (x / 9223372036854775808 + 1) % 2 := by
    rw [show (9223372036854775808 : Nat) = 2 ^ 63 from rfl, Nat.xor_div_two_pow, Nat.div_self (Nat.two_pow_pos 63)]
    generalize x / 2 ^ 63 = y
    have := Nat.xor_mod_two_pow (a := y) (b := 1) (n := 1)
    rw [show (2 : Nat) ^ 1 = 2 from rfl] at this
    rw [this]
    have hy : y % 2 = 0 ∨ y % 2 = 1 := by omega
    rcases hy with hy | hy <;> rw [hy] <;> simp <;> omega
  unfold Format.read
  simp only [binade_eq, sign_eq, inf_eq, least_eq, e1, e2]
  have e3 : ((x / 9223372036854775808 + 1) % 2 == 1) = !(x / 9223372036854775808 % 2 == 1) := by
    generalize x / 9223372036854775808 = y
    have hy : y % 2 = 0 ∨ y % 2 = 1 := by omega
    rcases hy with hy | hy
    · rw [hy, show (y + 1) % 2 = 1 by omega]; rfl
    · rw [hy, show (y + 1) % 2 = 0 by omega]; rfl
  rw [e3]
  split
  · rfl
  · split
    · rfl
    · split <;> rfl
theorem neg_num (x : Nat) (h : isNaN x = false) : isNaN (Op.negFloat .f64 x) = false ∧ K (Op.negFloat .f64 x) = -K x := by
  unfold isNaN K at *
  rw [read_neg]
  cases hr : D.read x with
  | nan s t => rw [hr] at h; cases h
  | infinity s => refine ⟨rfl, ?_⟩; unfold Datum.opposite val; cases s <;> simp
  | number s m e =>
    refine ⟨rfl, ?_⟩
    show val (.number (!s) m e) = -val (.number s m e)
    rw [val_num, val_num]
    cases s <;> simp
end Go.My.Flt

/-
  BlockSymbols' law; the document's Stored.
-/
import Derived.Test.YtaeoedapaiapdaaBkT
import Derived.Test.YtaeoedapaiapdaaBkFr
import Derived.Test.YtaeoedapaiapdaaTokO
namespace Go.Proofs.Ytaeoedapaiapdaa.BlkC
open Go.RowKit Go.My BitMath
open LzMath (Tok May ml md)
open LzC (TokIn)

theorem rsto_nums {n : Nat} (h1 : 1 ≤ n) (hn : n ≤ 1073741824) : ∃ M : Nat, Hid (sto n = n + 5 * (M + 1)) ∧ ((n : Int) - 1) / 65535 = (M : Int) ∧ M ≤ 20000 := by
  obtain ⟨M, hM⟩ : ∃ M : Nat, M = (n - 1) / 65535 := ⟨_, rfl⟩
  exact ⟨M, Lib.hid (by unfold sto; omega), by omega, by omega⟩
set_option maxRecDepth 100000 in
set_option maxHeartbeats 1000000 in
theorem rstored_num (z : Int) (w : World) (hz : -9223372036854775808 ≤ z ∧ z ≤ 9223372036854775807) : Calls Try.prog 14 #[.int .i64 z] w fun e w' => e = .returned (.int .i64 (stoZ z : Int)) ∧ w = w' := by
  by_cases h : z < 0
  · have HS : Hid (stoZ z = 0) := Lib.hid (by unfold stoZ; rw [if_pos h])
    go_enter Try.func14, Try.ntmps14
    go_wp2_with fail
    go_ret
    exact ⟨by rw [HS.out]; rfl, rfl⟩
  · by_cases h0 : z = 0
    · subst h0
      have HS : Hid (stoZ 0 = 5) := Lib.hid (by decide)
      clear h hz
      go_enter Try.func14, Try.ntmps14
      go_wp2_with fail
      go_ret
      exact ⟨by rw [HS.out]; rfl, rfl⟩
    · have HS : Hid (stoZ z = sto (min z.toNat 1073741824)) := Lib.hid (by unfold stoZ; rw [if_neg h])
      obtain ⟨n, hn⟩ : ∃ n : Nat, n = min z.toNat 1073741824 := ⟨_, rfl⟩
      have hn2 : n ≤ 1073741824 := by omega
      have hn1 : 1 ≤ n := by omega
      have hmin : (if (1073741824 : Int) < z then (1073741824 : Int) else z) = (n : Int) := by split <;> omega
      rw [← hn] at HS
      obtain ⟨M, HK, hdiv, hm2⟩ := rsto_nums hn1 hn2
      have HD := Lib.hid hdiv
      have hz0 : decide (z < 0) = false := decide_eq_false h
      have hz1 : (z == 0) = false := by simp [h0]
      clear h h0 hn hz hdiv
      go_enter Try.func14, Try.ntmps14
      go_upto_region 6 with (fail)
      clear hmin hz0 hz1
      have hdiv := HD.out
      go_wp2_with fail
      go_ret
      refine ⟨?_, rfl⟩
      rw [HS.out, HK.out]
      exact ret_int (by push_cast; rfl)
theorem sym_form (z : Int) (wide : Bool) : ∃ a b c : Int, symV z wide = .tuple #[.int .i64 a, .int .i64 b, .int .i64 c] := by
  unfold symV ans3 no3
  split <;> exact ⟨_, _, _, rfl⟩
theorem reach_form (z : Int) (wide : Bool) : ∃ a b c : Int, reachV z wide = .tuple #[.int .i64 a, .int .i64 b, .int .i64 c] := by
  unfold reachV ans3 no3
  split <;> exact ⟨_, _, _, rfl⟩
set_option maxRecDepth 100000 in
set_option maxHeartbeats 8000000 in
theorem symbols_law (n d : Int) (wide : Bool) (z : Int) (a : Option Addr) (len c : Nat) (f : Nat → Tok) (w : World) (h : TokIn w a len c f) (hd : -9223372036854775808 ≤ d ∧ d ≤ 9223372036854775807) (hz : -9223372036854775808 ≤ z ∧ z ≤ 9223372036854775807) :
    Calls Try.prog 3 #[.int .i64 n, .int .i64 d, .bool wide, .int .i64 z, .slice a len c] w fun e w' => e = .returned (.bool true) ∧ Below w.heap.size w w' := by
  have H := Lib.hid h
  have HDZ := Lib.hid (And.intro hd hz)
  have hlc := h.le_cap
  have hcm := h.cap_le
  clear h hd hz
  go_enter Try.func3, Try.ntmps3
  by_cases hlt : 100 < len
  · have HT := Lib.hid (told_any w)
    go_wp2_with fail
    refine HT.out.mono ?_
    rintro e w1 ⟨rfl, hb⟩
    go_wp2_with fail
    go_ret
    exact ⟨rfl, hb⟩
  · obtain ⟨s1, s2, s3, hs⟩ := sym_form n wide
    obtain ⟨r1, r2, r3, hr⟩ := reach_form d wide
    have HS1 := Lib.hid (symbol_any n wide w)
    rw [hs] at HS1
    have HS2 := Lib.hid (fun w' => rsym_any n wide w')
    have HR1 := Lib.hid (fun w' => reach_any d wide w')
    have HR2 := Lib.hid (fun w' => rrea_any d wide w' HDZ.out.1)
    simp only [hs] at HS2
    simp only [hr] at HR1 HR2
    clear hs hr
    go_wp2_with fail
    refine HS1.out.mono ?_
    rintro e w1 ⟨rfl, hb⟩
    have HB1 := Lib.hid hb
    clear hb HS1
    go_wp2_with fail
    refine (HS2.out w1).mono ?_
    rintro e w2 ⟨rfl, rfl⟩
    clear HS2
    go_wp2_with fail
    refine (HR1.out w1).mono ?_
    rintro e w2 ⟨rfl, hb⟩
    have HB2 := Lib.hid (HB1.out.trans (hb.mono HB1.out.size))
    clear hb HB1 HR1
    go_wp2_with fail
    refine (HR2.out w2).mono ?_
    rintro e w3 ⟨rfl, rfl⟩
    clear HR2
    have HT := Lib.hid (told_any w2)
    go_wp2_with fail
    refine HT.out.mono ?_
    rintro e w3 ⟨rfl, hb⟩
    have HB3 := Lib.hid (HB2.out.trans (hb.mono HB2.out.size))
    obtain ⟨K, k1, k2, k3⟩ := first_bad wide f len
    obtain ⟨F, hF⟩ : ∃ F, F = fixZ wide f len K := ⟨_, rfl⟩
    have HFX := Lib.hid (fixed_of wide a len c f w3 (H.out.below (Nat.le_refl _) HB3.out) (by omega) k1 k2 k3)
    have HFR := Lib.hid (fun w' hb => rfixed_of wide a len c f w' (H.out.below (Nat.le_refl _) hb) (by omega) k1 k2 k3)
    rw [← hF] at HFX
    simp only [← hF] at HFR
    clear hb HT HB2 k1 k2 k3 hF
    go_wp2_with fail
    refine HFX.out.mono ?_
    rintro e w4 ⟨rfl, hb⟩
    have HB4 := Lib.hid (HB3.out.trans (hb.mono HB3.out.size))
    clear hb HB3 HFX
    go_wp2_with fail
    refine (HFR.out w4 HB4.out).mono ?_
    rintro e w5 ⟨rfl, hb⟩
    have HB5 := Lib.hid (HB4.out.trans (hb.mono HB4.out.size))
    have HSD := Lib.hid (stored_any z w5 HDZ.out.2)
    have HSR := Lib.hid (rstored_num z w5 HDZ.out.2)
    clear hb HB4 HFR
    go_wp2_with fail
    refine HSD.out.mono ?_
    rintro e w6 ⟨rfl, rfl⟩
    go_wp2_with fail
    refine HSR.out.mono ?_
    rintro e w6 ⟨rfl, rfl⟩
    go_wp2_with fail
    go_ret
    exact ⟨rfl, HB5.out⟩
end Go.Proofs.Ytaeoedapaiapdaa.BlkC

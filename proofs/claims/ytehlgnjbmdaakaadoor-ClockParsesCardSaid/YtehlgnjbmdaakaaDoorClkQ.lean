import Derived.Test.YtehlgnjbmdaakaaDoorClkP
namespace Go.Proofs.YtehlgnjbmdaakaaDoor.ClkC
open Go.RowKit Go.My Flt NumMath Txt Go.Shelf NumC

theorem q_of (p : Int) (h1 : -5000000000000 ≤ p) (h2 : p ≤ 5000000000000) (w : World) :
    (binOp .quo 32 (.float .f64 (floatOfInt .f64 p)) (.float .f64 4647714815446351872)).run Tryd.prog w = .ok (.float .f64 (fl p)) w := by
  have h : floatOfInt .f64 p = fl (512 * p) := floatOfInt_fl p (by omega)
  rw [h]
  exact r_div (fl_div p (by omega)) w
theorem decV_le (l : List UInt8) : decV l ≤ 4611686018427387904 := by
  unfold decV decR
  split
  · unfold rngV; split <;> omega
  · exact Nat.zero_le _
theorem all_of_dec {l : List UInt8} (h : ¬ decE l = 2) : allIn decs l = true := by
  unfold decE decR at h
  by_cases hc : l ≠ [] ∧ allIn decs l = true
  · exact hc.2
  · rw [if_neg hc] at h; exact absurd rfl h
theorem fracV_lt (l : List UInt8) (h : allIn decs l = true) : fracV (Lib.trimRightB l 48) < 1000000000 := (nine_ok h).2
theorem fracS_lt (l : List UInt8) (h : allIn decs l = true) : fracS l < 512 := by
  have := fracV_lt l h
  unfold fracS
  omega
theorem ret_parse {p q : Int} {a b : Nat} (h : q = p) (h2 : b = a) : Ending.returned (.tuple #[.float .f64 (fl p), .int .i64 (a : Int)]) = .returned (.tuple #[.float .f64 (fl q), .int .i64 (b : Int)]) := by rw [h, h2]
theorem ret_parse_err {q : Int} {a b : Nat} (h : q = 0) (h2 : b = a) : Ending.returned (.tuple #[.float .f64 0, .int .i64 (a : Int)]) = .returned (.tuple #[.float .f64 (fl q), .int .i64 (b : Int)]) := by rw [h, h2, fl_zero]

set_option maxRecDepth 100000 in
set_option maxHeartbeats 4000000 in
theorem parse_any (s : ByteArray) (w : World) (hs : s.size ≤ 1000000) :
    Calls Tryd.prog 18 #[.string s] w fun e w' => e = .returned (.tuple #[.float .f64 (fl (parseP s.data.toList)), .int .i64 ((parseE s.data.toList : Nat) : Int)]) ∧ Below w.heap.size w w' := by
  have hpre := pre_any s w hs
  have hlen : s.data.toList.length = s.size := (Lib.size_eq s).symm
  obtain ⟨l, hl⟩ : ∃ l, l = s.data.toList := ⟨_, rfl⟩
  rw [← hl] at hpre hlen ⊢
  clear hl
  have hnl : (Txt.num l).length ≤ l.length := by unfold Txt.num; split <;> simp
  obtain ⟨nb, hnb⟩ : ∃ r : ByteArray, r = ⟨(Txt.num l).toArray⟩ := ⟨_, rfl⟩
  have hns : nb.size ≤ 1000000 := by rw [hnb, Lib.size_eq]; show (Txt.num l).length ≤ _; omega
  have hcut := fun w => cut_any nb w hns
  have hnd : nb.data.toList = Txt.num l := by rw [hnb]
  rw [hnd] at hcut
  rw [← hnb] at hpre
  clear hnb
  have hwl : (wholeL l).length ≤ (Txt.num l).length := (List.takeWhile_prefix _).length_le
  have hrl : (rest l).length ≤ (Txt.num l).length := (List.dropWhile_suffix _).length_le
  obtain ⟨wb, hwbe⟩ : ∃ r : ByteArray, r = ⟨(wholeL l).toArray⟩ := ⟨_, rfl⟩
  obtain ⟨tb, htbe⟩ : ∃ r : ByteArray, r = ⟨((rest l).tail).toArray⟩ := ⟨_, rfl⟩
  have hwb : wb.size ≤ 1000000 := by rw [hwbe, Lib.size_eq]; show (wholeL l).length ≤ _; omega
  have htb : tb.size ≤ 1000000 := by rw [htbe, Lib.size_eq]; show ((rest l).tail).length ≤ _; rw [List.length_tail]; omega
  have HW : Hid (wb.data.toList = wholeL l) := Lib.hid (by rw [hwbe])
  have HT : Hid (tb.data.toList = (rest l).tail) := Lib.hid (by rw [htbe])
  have hcut' : ∀ w, Calls Tryd.prog 38 #[.string nb, .string ⟨#[46]⟩] w fun e w' => e = .returned (.tuple #[.string wb, .string tb, .bool (decide (rest l ≠ []))]) ∧ Below w.heap.size w w' := by
    rw [hwbe, htbe]; exact hcut
  have HC := Lib.hid hcut'
  have HPR := Lib.hid hpre
  clear hcut hcut' hpre hwbe htbe hnd hwl hrl hnl hlen
  obtain ⟨ng, hng⟩ : ∃ b, b = Txt.neg l := ⟨_, rfl⟩
  rw [← hng] at HPR
  have HN : Hid (Txt.neg l = ng) := Lib.hid hng.symm
  clear hng
  by_cases hr : rest l = []
  · have HF : Hid ((⟨#[48]⟩ : ByteArray).data.toList = fracL l) := Lib.hid (by unfold fracL; rw [if_pos hr])
    rw [decide_eq_false (fun h => h hr)] at HC
    have hfb : (⟨#[48]⟩ : ByteArray).size ≤ 1000000 := by decide
    obtain ⟨fb, hfbe⟩ : ∃ r : ByteArray, r = ⟨#[48]⟩ := ⟨_, rfl⟩
    rw [← hfbe] at HF hfb
    have HFB := Lib.hid hfbe
    clear hr hfbe
    go_enter Tryd.func18, Tryd.ntmps18
    go_wp2_with fail
    refine HPR.out.mono ?_
    rintro e w1 ⟨rfl, b1⟩
    go_wp2_with fail
    refine (HC.out w1).mono ?_
    rintro e w2 ⟨rfl, b2⟩
    have hB2 := b1.trans (b2.mono b1.size)
    clear b1 b2
    go_wp2_with fail
    rw [← HFB.out]
    -- the two parts
    refine (decimal_any wb w2 hwb).mono ?_
    rintro e w3 ⟨rfl, b3⟩
    rw [HW.out]
    have hB3 := hB2.trans (b3.mono hB2.size)
    clear b3 hB2
    obtain ⟨a, ha⟩ : ∃ a, a = decV (wholeL l) := ⟨_, rfl⟩
    obtain ⟨ca, hca⟩ : ∃ a, a = decE (wholeL l) := ⟨_, rfl⟩
    rw [← ha, ← hca]
    have HA := Lib.hid ha
    have HCA := Lib.hid hca
    have ha62 : a ≤ 4611686018427387904 := by rw [ha]; exact decV_le _
    clear ha hca
    go_wp2_with fail
    refine (decimal_any fb w3 hfb).mono ?_
    rintro e w4 ⟨rfl, b4⟩
    rw [HF.out]
    have hB4 := hB3.trans (b4.mono hB3.size)
    clear b4 hB3
    generalize decV (fracL l) = vf
    obtain ⟨cf, hcf⟩ : ∃ a, a = decE (fracL l) := ⟨_, rfl⟩
    rw [← hcf]
    have HCF := Lib.hid hcf
    clear hcf
    by_cases h1 : ca = 2
    · have HB := Lib.hid hB4
      have HE : Hid (parseE l = 2) := Lib.hid (if_pos (.inl (HCA.out.symm.trans h1)))
      have HP : Hid (parseP l = 0) := Lib.hid (if_neg (by rw [HE.out]; decide))
      subst h1
      clear hB4
      go_wp2_with fail
      go_ret2
      exact ⟨ret_parse_err HP.out HE.out, HB.out⟩
    by_cases h2 : cf = 2
    · have HB := Lib.hid hB4
      have HE : Hid (parseE l = 2) := Lib.hid (if_pos (.inr (HCF.out.symm.trans h2)))
      have HP : Hid (parseP l = 0) := Lib.hid (if_neg (by rw [HE.out]; decide))
      subst h2
      clear hB4
      go_wp2_with fail
      go_ret2
      exact ⟨ret_parse_err HP.out HE.out, HB.out⟩
    have hform : ¬ (decE (wholeL l) = 2 ∨ decE (fracL l) = 2) := by rw [← HCA.out, ← HCF.out]; omega
    have HFM := Lib.hid hform
    have hall : allIn decs fb.data.toList = true := by
      rw [HF.out]
      exact all_of_dec (fun e => h2 (HCF.out.trans e))
    have hS := steps_any fb w4 hfb hall
    rw [HF.out] at hS
    have hb5 := fracS_lt (fracL l) (by rw [← HF.out]; exact hall)
    clear hform hall HCF
    obtain ⟨st, hst⟩ : ∃ a, a = fracS (fracL l) := ⟨_, rfl⟩
    obtain ⟨ex, hex⟩ : ∃ a, a = fracX (fracL l) := ⟨_, rfl⟩
    rw [← hst] at hS hb5
    rw [← hex] at hS
    have HST := Lib.hid hst
    have HEX := Lib.hid hex
    have HS := Lib.hid hS
    clear hst hex hS
    have k1 : ((ca : Int) == 2) = false := by simp; omega
    have k2 : ((cf : Int) == 2) = false := by simp; omega
    go_wp2_with fail
    refine HS.out.mono ?_
    rintro e w5 ⟨rfl, b5⟩
    have HB := Lib.hid (hB4.trans (b5.mono hB4.size))
    clear b5 hB4 HS
    by_cases h3 : ca = 0
    case neg =>
      have HE : Hid (parseE l = 7) := Lib.hid (by unfold parseE; rw [if_neg HFM.out, if_pos (.inl (by rw [← HCA.out]; exact h3))])
      have HP : Hid (parseP l = 0) := Lib.hid (if_neg (by rw [HE.out]; decide))
      have k3 : ((ca : Int) != 0) = true := by simp; omega
      go_wp2_with fail
      go_ret2
      exact ⟨ret_parse_err HP.out HE.out, HB.out⟩
    subst h3
    by_cases h4 : 8589934592 < a
    · have HE : Hid (parseE l = 7) := Lib.hid (by unfold parseE; rw [if_neg HFM.out, if_pos (.inr (.inl (by rw [← HA.out]; exact h4)))])
      have HP : Hid (parseP l = 0) := Lib.hid (if_neg (by rw [HE.out]; decide))
      go_wp2_with fail
      go_ret2
      exact ⟨ret_parse_err HP.out HE.out, HB.out⟩
    by_cases h5 : a = 8589934592 ∧ (0 < st ∨ ex = false)
    · have HE : Hid (parseE l = 7) := Lib.hid (by unfold parseE; rw [if_neg HFM.out, if_pos (.inr (.inr (by rw [← HA.out, ← HST.out, ← HEX.out]; exact h5)))])
      have HP : Hid (parseP l = 0) := Lib.hid (if_neg (by rw [HE.out]; decide))
      obtain ⟨rfl, h5⟩ := h5
      by_cases h6 : 0 < st
      · go_wp2_with fail
        go_ret2
        exact ⟨ret_parse_err HP.out HE.out, HB.out⟩
      · obtain rfl : st = 0 := by omega
        obtain rfl : ex = false := by rcases h5 with h | h; exact absurd h h6; exact h
        go_wp2_with fail
        go_ret2
        exact ⟨ret_parse_err HP.out HE.out, HB.out⟩
    have HE : Hid (parseE l = 0) := Lib.hid (by
      unfold parseE
      rw [if_neg HFM.out, if_neg]
      rw [← HA.out, ← HST.out, ← HEX.out, ← HCA.out]
      intro h
      rcases h with h | h | h
      · exact h rfl
      · exact h4 h
      · exact h5 h)
    have HP : Hid (parseP l = (if Txt.neg l then -((st + a * 512 : Nat) : Int) - (if ex then 0 else 1) else ((st + a * 512 : Nat) : Int))) := Lib.hid (by
      unfold parseP
      rw [if_pos HE.out, ← HA.out, ← HST.out, ← HEX.out])
    rw [HN.out] at HP
    have hle : a ≤ 8589934592 := by omega
    by_cases h6 : a = 8589934592
    · obtain rfl : st = 0 := by
        apply Nat.eq_zero_of_not_pos
        exact fun h => h5 ⟨h6, .inl h⟩
      obtain rfl : ex = true := by
        cases ex
        · exact absurd ⟨h6, .inr rfl⟩ h5
        · rfl
      clear h5 h4
      subst h6
      cases ng
      · go_wp2_with fail
        rw [q_of _ (by omega) (by omega)]
        go_wp2_with fail
        go_ret2
        exact ⟨ret_parse (by rw [HP.out]; simp) HE.out, HB.out⟩
      · go_wp2_with fail
        rw [q_of _ (by omega) (by omega)]
        go_wp2_with fail
        go_ret2
        exact ⟨ret_parse (by rw [HP.out]; simp) HE.out, HB.out⟩
    have hlt : a < 8589934592 := by omega
    have hne : ((a : Int) == 8589934592) = false := by simp; omega
    clear h5 h4 h6 hle
    cases ng
    · go_wp2_with fail
      rw [q_of _ (by omega) (by omega)]
      go_wp2_with fail
      go_ret2
      exact ⟨ret_parse (by rw [HP.out]; simp) HE.out, HB.out⟩
    · cases ex
      · go_wp2_with fail
        rw [q_of _ (by omega) (by omega)]
        go_wp2_with fail
        go_ret2
        exact ⟨ret_parse (by rw [HP.out]; simp) HE.out, HB.out⟩
      · go_wp2_with fail
        rw [q_of _ (by omega) (by omega)]
        go_wp2_with fail
        go_ret2
        exact ⟨ret_parse (by rw [HP.out]; simp) HE.out, HB.out⟩
  · have HF : Hid (tb.data.toList = fracL l) := Lib.hid (by unfold fracL; rw [if_neg hr]; exact HT.out)
    rw [decide_eq_true hr] at HC
    have hfb := htb
    obtain ⟨fb, hfbe⟩ : ∃ r : ByteArray, r = tb := ⟨_, rfl⟩
    rw [← hfbe] at HF hfb HC
    clear hr hfbe HT htb
    go_enter Tryd.func18, Tryd.ntmps18
    go_wp2_with fail
    refine HPR.out.mono ?_
    rintro e w1 ⟨rfl, b1⟩
    go_wp2_with fail
    refine (HC.out w1).mono ?_
    rintro e w2 ⟨rfl, b2⟩
    have hB2 := b1.trans (b2.mono b1.size)
    clear b1 b2
    go_wp2_with fail
    -- the two parts
    refine (decimal_any wb w2 hwb).mono ?_
    rintro e w3 ⟨rfl, b3⟩
    rw [HW.out]
    have hB3 := hB2.trans (b3.mono hB2.size)
    clear b3 hB2
    obtain ⟨a, ha⟩ : ∃ a, a = decV (wholeL l) := ⟨_, rfl⟩
    obtain ⟨ca, hca⟩ : ∃ a, a = decE (wholeL l) := ⟨_, rfl⟩
    rw [← ha, ← hca]
    have HA := Lib.hid ha
    have HCA := Lib.hid hca
    have ha62 : a ≤ 4611686018427387904 := by rw [ha]; exact decV_le _
    clear ha hca
    go_wp2_with fail
    refine (decimal_any fb w3 hfb).mono ?_
    rintro e w4 ⟨rfl, b4⟩
    rw [HF.out]
    have hB4 := hB3.trans (b4.mono hB3.size)
    clear b4 hB3
    generalize decV (fracL l) = vf
    obtain ⟨cf, hcf⟩ : ∃ a, a = decE (fracL l) := ⟨_, rfl⟩
    rw [← hcf]
    have HCF := Lib.hid hcf
    clear hcf
    by_cases h1 : ca = 2
    · have HB := Lib.hid hB4
      have HE : Hid (parseE l = 2) := Lib.hid (if_pos (.inl (HCA.out.symm.trans h1)))
      have HP : Hid (parseP l = 0) := Lib.hid (if_neg (by rw [HE.out]; decide))
      subst h1
      clear hB4
      go_wp2_with fail
      go_ret2
      exact ⟨ret_parse_err HP.out HE.out, HB.out⟩
    by_cases h2 : cf = 2
    · have HB := Lib.hid hB4
      have HE : Hid (parseE l = 2) := Lib.hid (if_pos (.inr (HCF.out.symm.trans h2)))
      have HP : Hid (parseP l = 0) := Lib.hid (if_neg (by rw [HE.out]; decide))
      subst h2
      clear hB4
      go_wp2_with fail
      go_ret2
      exact ⟨ret_parse_err HP.out HE.out, HB.out⟩
    have hform : ¬ (decE (wholeL l) = 2 ∨ decE (fracL l) = 2) := by rw [← HCA.out, ← HCF.out]; omega
    have HFM := Lib.hid hform
    have hall : allIn decs fb.data.toList = true := by
      rw [HF.out]
      exact all_of_dec (fun e => h2 (HCF.out.trans e))
    have hS := steps_any fb w4 hfb hall
    rw [HF.out] at hS
    have hb5 := fracS_lt (fracL l) (by rw [← HF.out]; exact hall)
    clear hform hall HCF
    obtain ⟨st, hst⟩ : ∃ a, a = fracS (fracL l) := ⟨_, rfl⟩
    obtain ⟨ex, hex⟩ : ∃ a, a = fracX (fracL l) := ⟨_, rfl⟩
    rw [← hst] at hS hb5
    rw [← hex] at hS
    have HST := Lib.hid hst
    have HEX := Lib.hid hex
    have HS := Lib.hid hS
    clear hst hex hS
    have k1 : ((ca : Int) == 2) = false := by simp; omega
    have k2 : ((cf : Int) == 2) = false := by simp; omega
    go_wp2_with fail
    refine HS.out.mono ?_
    rintro e w5 ⟨rfl, b5⟩
    have HB := Lib.hid (hB4.trans (b5.mono hB4.size))
    clear b5 hB4 HS
    by_cases h3 : ca = 0
    case neg =>
      have HE : Hid (parseE l = 7) := Lib.hid (by unfold parseE; rw [if_neg HFM.out, if_pos (.inl (by rw [← HCA.out]; exact h3))])
      have HP : Hid (parseP l = 0) := Lib.hid (if_neg (by rw [HE.out]; decide))
      have k3 : ((ca : Int) != 0) = true := by simp; omega
      go_wp2_with fail
      go_ret2
      exact ⟨ret_parse_err HP.out HE.out, HB.out⟩
    subst h3
    by_cases h4 : 8589934592 < a
    · have HE : Hid (parseE l = 7) := Lib.hid (by unfold parseE; rw [if_neg HFM.out, if_pos (.inr (.inl (by rw [← HA.out]; exact h4)))])
      have HP : Hid (parseP l = 0) := Lib.hid (if_neg (by rw [HE.out]; decide))
      go_wp2_with fail
      go_ret2
      exact ⟨ret_parse_err HP.out HE.out, HB.out⟩
    by_cases h5 : a = 8589934592 ∧ (0 < st ∨ ex = false)
    · have HE : Hid (parseE l = 7) := Lib.hid (by unfold parseE; rw [if_neg HFM.out, if_pos (.inr (.inr (by rw [← HA.out, ← HST.out, ← HEX.out]; exact h5)))])
      have HP : Hid (parseP l = 0) := Lib.hid (if_neg (by rw [HE.out]; decide))
      obtain ⟨rfl, h5⟩ := h5
      by_cases h6 : 0 < st
      · go_wp2_with fail
        go_ret2
        exact ⟨ret_parse_err HP.out HE.out, HB.out⟩
      · obtain rfl : st = 0 := by omega
        obtain rfl : ex = false := by rcases h5 with h | h; exact absurd h h6; exact h
        go_wp2_with fail
        go_ret2
        exact ⟨ret_parse_err HP.out HE.out, HB.out⟩
    have HE : Hid (parseE l = 0) := Lib.hid (by
      unfold parseE
      rw [if_neg HFM.out, if_neg]
      rw [← HA.out, ← HST.out, ← HEX.out, ← HCA.out]
      intro h
      rcases h with h | h | h
      · exact h rfl
      · exact h4 h
      · exact h5 h)
    have HP : Hid (parseP l = (if Txt.neg l then -((st + a * 512 : Nat) : Int) - (if ex then 0 else 1) else ((st + a * 512 : Nat) : Int))) := Lib.hid (by
      unfold parseP
      rw [if_pos HE.out, ← HA.out, ← HST.out, ← HEX.out])
    rw [HN.out] at HP
    have hle : a ≤ 8589934592 := by omega
    by_cases h6 : a = 8589934592
    · obtain rfl : st = 0 := by
        apply Nat.eq_zero_of_not_pos
        exact fun h => h5 ⟨h6, .inl h⟩
      obtain rfl : ex = true := by
        cases ex
        · exact absurd ⟨h6, .inr rfl⟩ h5
        · rfl
      clear h5 h4
      subst h6
      cases ng
      · go_wp2_with fail
        rw [q_of _ (by omega) (by omega)]
        go_wp2_with fail
        go_ret2
        exact ⟨ret_parse (by rw [HP.out]; simp) HE.out, HB.out⟩
      · go_wp2_with fail
        rw [q_of _ (by omega) (by omega)]
        go_wp2_with fail
        go_ret2
        exact ⟨ret_parse (by rw [HP.out]; simp) HE.out, HB.out⟩
    have hlt : a < 8589934592 := by omega
    have hne : ((a : Int) == 8589934592) = false := by simp; omega
    clear h5 h4 h6 hle
    cases ng
    · go_wp2_with fail
      rw [q_of _ (by omega) (by omega)]
      go_wp2_with fail
      go_ret2
      exact ⟨ret_parse (by rw [HP.out]; simp) HE.out, HB.out⟩
    · cases ex
      · go_wp2_with fail
        rw [q_of _ (by omega) (by omega)]
        go_wp2_with fail
        go_ret2
        exact ⟨ret_parse (by rw [HP.out]; simp) HE.out, HB.out⟩
      · go_wp2_with fail
        rw [q_of _ (by omega) (by omega)]
        go_wp2_with fail
        go_ret2
        exact ⟨ret_parse (by rw [HP.out]; simp) HE.out, HB.out⟩
end Go.Proofs.YtehlgnjbmdaakaaDoor.ClkC

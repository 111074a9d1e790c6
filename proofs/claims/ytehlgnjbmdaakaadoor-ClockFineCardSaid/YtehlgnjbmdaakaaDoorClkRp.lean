import Derived.Test.YtehlgnjbmdaakaaDoorClkQ
import Derived.Test.YtehlgnjbmdaakaaDoorClkTx3
namespace Go.Proofs.YtehlgnjbmdaakaaDoor.ClkC
open Go.RowKit Go.My Flt NumMath Txt

def Held33 (P : List UInt8) (ov : Bool) (n : Nat) : Prop := (ov = false ∧ n = V (dig 10) 10 P ∧ n ≤ 8589934592) ∨ (ov = true ∧ 8589934592 < V (dig 10) 10 P)
theorem Held33_f {P : List UInt8} {n : Nat} (h : Held33 P false n) : n = V (dig 10) 10 P ∧ n ≤ 8589934592 := by
  rcases h with ⟨_, h⟩ | ⟨h, _⟩
  · exact h
  · cases h
theorem Held33_t {P : List UInt8} {n : Nat} (h : Held33 P true n) : 8589934592 < V (dig 10) 10 P := by
  rcases h with ⟨h, _⟩ | ⟨_, h⟩
  · cases h
  · exact h
theorem dig10 (c : UInt8) (h : c.toNat ≤ 57) : dig 10 c = c.toNat - 48 := by
  unfold dig; rw [if_neg (by decide), if_pos h]
set_option maxRecDepth 100000 in
set_option maxHeartbeats 8000000 in
theorem refparse_neg (s : ByteArray) (l m : List UInt8) (w : World) (hs : s.size ≤ 1000000) (h0 : 0 < s.size) (hm0 : s[0] = 45)
    (HM : Hid (Txt.num l = m)) (HNEG : Hid (Txt.neg l = true)) (HML : Hid (m.length = s.size - 1)) (HGM : Hid (∀ i (_ : 1 ≤ i) (h2 : i < s.size) (h3 : i - 1 < m.length), m[i - 1] = s[i])) :
    Calls Tryd.prog 19 #[.string s] w fun e w' => e = .returned (.tuple #[.float .f64 (fl (parseP l)), .int .i64 ((parseE l : Nat) : Int)]) ∧ w = w' := by
  have k45 : ((s[0].toNat : Int) == 45) = true := by rw [hm0]; rfl
  clear hm0
  go_enter Tryd.func19, Tryd.ntmps19
  go_wp2_with fail
  go_loop [4, 6, 8] (fun iv nv ov => ∃ (j v : Nat) (o : Bool), 1 ≤ j ∧ j ≤ s.size ∧ iv = .int .i64 (j : Int) ∧ nv = .int .i64 (v : Int) ∧ ov = .bool o ∧ v ≤ 85899345929 ∧ Hid (allIn decs (m.take (j - 1)) = true) ∧ Hid (Held33 (m.take (j - 1)) o v)) (fun iv _ _ => s.size - (intOf iv).toNat)
  case atStart => exact ⟨1, 0, false, by omega, by omega, rfl, rfl, rfl, by omega, Lib.hid (by simp [allIn]), Lib.hid (.inl ⟨rfl, by simp [V], by omega⟩)⟩
  case round =>
    obtain ⟨j, v, o, hj1, hj2, rfl, rfl, rfl, hv85, HA, HH⟩ := hrel
    by_cases hjs : j < s.size
    · have hjm : j - 1 < m.length := by rw [HML.out]; omega
      have hc := HGM.out j hj1 hjs hjm
      by_cases hx : 48 ≤ s[j].toNat ∧ s[j].toNat ≤ 57
      · obtain ⟨hx1, hx2⟩ := hx
        have e1 : decide ((48 : Int) ≤ (s[j].toNat : Int)) = true := by simp; omega
        have e2 : decide ((s[j].toNat : Int) ≤ 57) = true := by simp; omega
        have HS : Hid (V (dig 10) 10 (m.take (j + 1 - 1)) = V (dig 10) 10 (m.take (j - 1)) * 10 + (s[j].toNat - 48)) := Lib.hid (by rw [show j + 1 - 1 = j - 1 + 1 by omega, V_take_succ _ _ _ _ hjm, hc, dig10 _ hx2])
        have HAN : Hid (allIn decs (m.take (j + 1 - 1)) = true) := Lib.hid (by
          rw [show j + 1 - 1 = j - 1 + 1 by omega, List.take_succ_eq_append_getElem hjm, hc]; exact allIn_snoc _ _ _ HA.out ((decs_iff _).2 ⟨hx1, hx2⟩))
        clear hc
        cases o
        · obtain ⟨hv1, hv2⟩ := Held33_f HH.out
          by_cases hbig : 8589934592 < v * 10 + (s[j].toNat - 48)
          · have HN : Hid (Held33 (m.take (j + 1 - 1)) true (v * 10 + (s[j].toNat - 48))) := Lib.hid (.inr ⟨rfl, by rw [HS.out, ← hv1]; exact hbig⟩)
            have hb1 : decide ((8589934592 : Int) < (v : Int) * 10 + ((s[j].toNat : Int) - 48)) = true := by simp; omega
            clear hv1
            go_wp2_with fail
            go_round
            case rel => exact ⟨j + 1, v * 10 + (s[j].toNat - 48), true, by omega, by omega, by go_num, by go_num, by first | rfl | (rw [decide_eq_true (by omega)]), by omega, HAN, HN⟩
            case measure => simp [intOf]; omega
          · have HN : Hid (Held33 (m.take (j + 1 - 1)) false (v * 10 + (s[j].toNat - 48))) := Lib.hid (.inl ⟨rfl, by rw [HS.out, ← hv1], by omega⟩)
            clear hv1
            go_wp2_with fail
            go_round
            case rel => exact ⟨j + 1, v * 10 + (s[j].toNat - 48), false, by omega, by omega, by go_num, by go_num, by first | rfl | (rw [decide_eq_false (by omega)]), by omega, HAN, HN⟩
            case measure => simp [intOf]; omega
        · have HN : Hid (Held33 (m.take (j + 1 - 1)) true v) := Lib.hid (.inr ⟨rfl, by have := Held33_t HH.out; rw [HS.out]; omega⟩)
          go_wp2_with fail
          go_round
          case rel => exact ⟨j + 1, v, true, by omega, by omega, by go_num, rfl, rfl, hv85, HAN, HN⟩
          case measure => simp [intOf]; omega
      · have hdn : decs.contains m[j - 1] = false := by
          rw [hc]
          cases hq : decs.contains s[j]
          · rfl
          · exact absurd ((decs_iff _).1 hq) hx
        have HDN := Lib.hid hdn
        have HC := Lib.hid hc
        clear hdn hc
        -- no digit stands here
        have hnd : decide ((48 : Int) ≤ (s[j].toNat : Int)) = false ∨ (decide ((48 : Int) ≤ (s[j].toNat : Int)) = true ∧ decide ((s[j].toNat : Int) ≤ 57) = false) := by simp; omega
        by_cases h46 : s[j] = 46
        · by_cases hj0 : j = 1
          · have HE : Hid (parseE l = 2) := Lib.hid (by
              have := whole_digits (m := m) (j - 1) HA.out (.inr ⟨hjm, by rw [HC.out]; exact h46⟩)
              unfold parseE
              refine if_pos (.inl ?_)
              unfold wholeL
              rw [HM.out, this.1, show j - 1 = 0 by omega]; rfl)
            have HP : Hid (parseP l = 0) := Lib.hid (if_neg (by rw [HE.out]; decide))
            subst hj0
            rcases hnd with e1 | ⟨e1, e2⟩
            all_goals
              go_wp2_with fail
              go_ret2
              exact ⟨ret_parse_err HP.out HE.out, rfl⟩
          · have hj1' : 1 < j := by omega
            have hjne : ((j : Int) == 1) = false := by simp; omega
            have e1 : decide ((48 : Int) ≤ (s[j].toNat : Int)) = false := by rw [h46]; decide
            clear hnd hx hj0
            have HWL : Hid (wholeL l = m.take (j - 1) ∧ rest l = m.drop (j - 1)) := Lib.hid (by
              have := whole_digits (m := m) (j - 1) HA.out (.inr ⟨hjm, by rw [HGM.out j hj1 hjs hjm]; exact h46⟩)
              exact ⟨by unfold wholeL; rw [HM.out]; exact this.1, by unfold rest; rw [HM.out]; exact this.2⟩)
            obtain ⟨f, hf⟩ : ∃ f, f = m.drop (j + 1 - 1) := ⟨_, rfl⟩
            have HFL : Hid (fracL l = f) := Lib.hid (by
              unfold fracL
              rw [HWL.out.2, if_neg (by intro e; have := congrArg List.length e; rw [List.length_drop, HML.out] at this; simp at this; omega), List.tail_drop, hf, show j - 1 + 1 = j + 1 - 1 by omega])
            have hfl : f.length = s.size - (j + 1) := by rw [hf, List.length_drop, HML.out]; omega
            have HGL : Hid (∀ i (h1 : j + 1 ≤ i) (h2 : i < s.size) (h3 : i - (j + 1) < f.length), f[i - (j + 1)] = s[i]) := Lib.hid (fun i h1 h2 h3 => by
              subst hf
              rw [List.getElem_drop]
              have hx : j + 1 - 1 + (i - (j + 1)) = i - 1 := by omega
              have hlen : i - 1 < m.length := by rw [HML.out]; omega
              rw [← HGM.out i (by omega) h2 hlen]
              congr 1)
            have HFLL := Lib.hid hfl
            have s46 : s[j].toNat = 46 := by rw [h46]; rfl
            clear hf hfl
            have HS46 := Lib.hid h46
            by_cases hend : s.size ≤ j + 1
            · have HE : Hid (parseE l = 2) := Lib.hid (by unfold parseE; rw [HFL.out, show f = [] from List.eq_nil_of_length_eq_zero (by rw [HFLL.out]; omega)]; exact if_pos (.inr rfl))
              have HP : Hid (parseP l = 0) := Lib.hid (if_neg (by rw [HE.out]; decide))
              go_wp2_with fail
              go_ret2
              exact ⟨ret_parse_err HP.out HE.out, rfl⟩
            have hend2 : j + 1 < s.size := by omega
            go_wp2_with fail
            go_loop [4, 9, 10, 11] (fun iv gv dv bv => ∃ (i g d : Nat) (b : Bool), j + 1 ≤ i ∧ i ≤ s.size ∧ iv = .int .i64 (i : Int) ∧ gv = .int .i64 (g : Int) ∧ dv = .int .i64 (d : Int) ∧ bv = .bool b ∧ d ≤ 9 ∧ g < 10 ^ d ∧ Hid (allIn decs (f.take (i - (j + 1))) = true) ∧ Hid (g = V (dig 10) 10 (f.take d)) ∧ Hid (d = min (i - (j + 1)) 9) ∧ Hid (b = more (f.take (i - (j + 1))))) (fun iv _ _ _ => s.size - (intOf iv).toNat)
            case atStart => exact ⟨j + 1, 0, 0, false, by omega, by omega, by go_num, rfl, rfl, rfl, by omega, by decide, Lib.hid (by simp [allIn]), Lib.hid (by simp [V]), Lib.hid (by omega), Lib.hid (by simp [more])⟩
            case round =>
              obtain ⟨i, g, d, b, hi1, hi2, rfl, rfl, rfl, rfl, hd9, hgd, HAF, HGV, HDM, HBM⟩ := hrel
              by_cases hlt2 : i < s.size
              · have hif : i - (j + 1) < f.length := by rw [HFLL.out]; omega
                have hc := HGL.out i hi1 hlt2 hif
                by_cases hx : 48 ≤ s[i].toNat ∧ s[i].toNat ≤ 57
                · obtain ⟨hx1, hx2⟩ := hx
                  have e1 : decide ((s[i].toNat : Int) < 48) = false := by simp; omega
                  have e2 : decide ((57 : Int) < (s[i].toNat : Int)) = false := by simp; omega
                  have HAN : Hid (allIn decs (f.take (i + 1 - (j + 1))) = true) := Lib.hid (by
                    rw [show i + 1 - (j + 1) = i - (j + 1) + 1 by omega, List.take_succ_eq_append_getElem hif, hc]
                    exact allIn_snoc _ _ _ HAF.out ((decs_iff _).2 ⟨hx1, hx2⟩))
                  by_cases hd : d < 9
                  · have hdi : d = i - (j + 1) := by have := HDM.out; omega
                    have HGN : Hid (g * 10 + (s[i].toNat - 48) = V (dig 10) 10 (f.take (d + 1))) := Lib.hid (by
                      rw [HGV.out, hdi, V_take_succ _ _ _ _ hif, hc, dig10 _ hx2])
                    have HDN : Hid (d + 1 = min (i + 1 - (j + 1)) 9) := Lib.hid (by omega)
                    have HBN : Hid (b = more (f.take (i + 1 - (j + 1)))) := Lib.hid (by
                      rw [HBM.out]
                      unfold more
                      rw [List.drop_eq_nil_of_le (by rw [List.length_take]; omega), List.drop_eq_nil_of_le (by rw [List.length_take]; omega)])
                    have hgn : g * 10 + (s[i].toNat - 48) < 10 ^ (d + 1) := by rw [Nat.pow_succ]; omega
                    have hg9 : 10 ^ (d + 1) ≤ 10 ^ 9 := Nat.pow_le_pow_right (by omega) (by omega)
                    have hg10 : g * 10 + (s[i].toNat - 48) < 1000000000 := Nat.lt_of_lt_of_le hgn hg9
                    have HGN2 := Lib.hid hgn
                    clear hgn hg9 hgd hc hdi
                    go_wp2_with fail
                    go_round
                    case rel => exact ⟨i + 1, g * 10 + (s[i].toNat - 48), d + 1, b, by omega, by omega, by go_num, by go_num, by go_num, rfl, by omega, HGN2.out, HAN, HGN, HDN, HBN⟩
                    case measure => simp [intOf]; omega
                  · have hd9' : d = 9 := by omega
                    subst hd9'
                    have HBN : Hid ((b || (s[i] != 48)) = more (f.take (i + 1 - (j + 1)))) := Lib.hid (by
                      rw [HBM.out]
                      unfold more
                      have h9 : 9 ≤ (f.take (i - (j + 1))).length := by have := HDM.out; rw [List.length_take]; omega
                      rw [show i + 1 - (j + 1) = i - (j + 1) + 1 by omega, List.take_succ_eq_append_getElem hif, hc, List.drop_append_of_le_length h9, List.any_append]
                      simp)
                    have HDN : Hid (9 = min (i + 1 - (j + 1)) 9) := Lib.hid (by have := HDM.out; omega)
                    cases b
                    · by_cases h0 : s[i].toNat = 48
                      · have hb0 : ((s[i].toNat : Int) != 48) = false := by simp; omega
                        have HB0 : Hid (false = more (f.take (i + 1 - (j + 1)))) := Lib.hid (by rw [← HBN.out]; have : s[i] = 48 := UInt8.toNat_inj.1 h0; rw [this]; rfl)
                        clear hc
                        go_wp2_with fail
                        go_round
                        case rel => exact ⟨i + 1, g, 9, false, by omega, by omega, by go_num, rfl, rfl, by first | rfl | simp [hb0], by omega, hgd, HAN, HGV, HDN, HB0⟩
                        case measure => simp [intOf]; omega
                      · have hb0 : ((s[i].toNat : Int) != 48) = true := by simp; omega
                        have hs0 : (s[i] != 48) = true := by
                          simp only [bne_iff_ne, ne_eq]
                          exact fun e => h0 (by rw [e]; rfl)
                        have HB0 : Hid (true = more (f.take (i + 1 - (j + 1)))) := Lib.hid (by rw [← HBN.out, hs0]; rfl)
                        clear hs0
                        clear hc
                        go_wp2_with fail
                        go_round
                        case rel => exact ⟨i + 1, g, 9, true, by omega, by omega, by go_num, rfl, rfl, by first | rfl | simp [hb0], by omega, hgd, HAN, HGV, HDN, HB0⟩
                        case measure => simp [intOf]; omega
                    · have HB0 : Hid (true = more (f.take (i + 1 - (j + 1)))) := Lib.hid (by rw [← HBN.out]; rfl)
                      clear hc
                      go_wp2_with fail
                      go_round
                      case rel => exact ⟨i + 1, g, 9, true, by omega, by omega, by go_num, rfl, rfl, by first | rfl | simp, by omega, hgd, HAN, HGV, HDN, HB0⟩
                      case measure => simp [intOf]; omega
                · have HE : Hid (parseE l = 2) := Lib.hid (by
                    unfold parseE
                    rw [HFL.out]
                    refine if_pos (.inr ?_)
                    unfold decE decR
                    rw [if_neg]
                    rintro ⟨_, h⟩
                    have := (decs_iff _).1 (allIn_ok h f[i - (j + 1)] (List.getElem_mem hif))
                    rw [hc] at this
                    exact hx this)
                  have HP : Hid (parseP l = 0) := Lib.hid (if_neg (by rw [HE.out]; decide))
                  clear hc
                  by_cases h48 : s[i].toNat < 48
                  · have e1 : decide ((s[i].toNat : Int) < 48) = true := by simp; omega
                    go_wp2_with fail
                    go_ret2
                    exact ⟨ret_parse_err HP.out HE.out, rfl⟩
                  · have e1 : decide ((s[i].toNat : Int) < 48) = false := by simp; omega
                    have e2 : decide ((57 : Int) < (s[i].toNat : Int)) = true := by simp; omega
                    go_wp2_with fail
                    go_ret2
                    exact ⟨ret_parse_err HP.out HE.out, rfl⟩
              · obtain rfl : i = s.size := by omega
                have HTF : Hid (f.take (s.size - (j + 1)) = f) := Lib.hid (List.take_of_length_le (by rw [HFLL.out]; exact Nat.le_refl _))
                rw [HTF.out] at HAF HBM
                have HMB : Hid (b = more (fracL l)) := Lib.hid (by rw [HFL.out]; exact HBM.out)
                have HVW : Hid (V (dig 10) 10 (m.take (j - 1)) = V (dig 10) 10 (wholeL l)) := Lib.hid (by rw [HWL.out.1])
                have HFIN := Lib.hid (final_E (l := l) (by rw [HWL.out.1]; intro e; have := congrArg List.length e; rw [List.length_take, HML.out] at this; simp only [List.length_nil] at this; omega) (by rw [HWL.out.1]; exact HA.out) (by rw [HFL.out]; intro e; have := HFLL.out; rw [e] at this; simp at this; omega) (by rw [HFL.out]; exact HAF.out))
                have HST : Hid (g * 10 ^ (9 - d) = frac9 (fracL l)) := Lib.hid (by
                  rw [HFL.out]
                  unfold frac9
                  have hdl : d = min f.length 9 := by rw [HFLL.out]; exact HDM.out
                  have h1 : f.take d = f.take 9 := by
                    rw [hdl]
                    by_cases hc : f.length ≤ 9
                    · rw [Nat.min_eq_left hc, List.take_of_length_le (Nat.le_refl _), List.take_of_length_le hc]
                    · rw [Nat.min_eq_right (by omega)]
                  rw [HGV.out, h1, List.length_take, show min 9 f.length = d by omega])
                have hg9 : g < 10 ^ 9 := Nat.lt_of_lt_of_le hgd (Nat.pow_le_pow_right (by omega) hd9)
                have HGD0 := Lib.hid hgd
                have HG90 := Lib.hid hg9
                clear hgd hg9 HGV HDM HTF
                go_wp2_with fail
                go_loop [9, 10] (fun gv dv => ∃ (g d : Nat), d ≤ 9 ∧ gv = .int .i64 (g : Int) ∧ dv = .int .i64 (d : Int) ∧ g < 10 ^ 9 ∧ Hid (g * 10 ^ (9 - d) = frac9 (fracL l)) ∧ g < 10 ^ d) (fun _ dv => 9 - (intOf dv).toNat)
                case atStart => exact ⟨g, d, hd9, rfl, rfl, HG90.out, HST, HGD0.out⟩
                case round =>
                  obtain ⟨g, d, hd, rfl, rfl, hg9, HGD, hgd⟩ := hrel
                  by_cases hlt3 : d < 9
                  · have hgd2 : g * 10 < 10 ^ (d + 1) := by rw [Nat.pow_succ]; omega
                    have hgd3 : 10 ^ (d + 1) ≤ 10 ^ 9 := Nat.pow_le_pow_right (by omega) (by omega)
                    have HGN : Hid (g * 10 * 10 ^ (9 - (d + 1)) = frac9 (fracL l)) := Lib.hid (by rw [← HGD.out, Nat.mul_assoc, ← Nat.pow_succ', show (9 - (d + 1)).succ = 9 - d by omega])
                    have HG2 := Lib.hid hgd2
                    have HG3 := Lib.hid hgd3
                    have hg10 : g * 10 < 1000000000 := Nat.lt_of_lt_of_le hgd2 hgd3
                    clear hgd2 hgd3 hgd hg9
                    go_wp2_with fail
                    go_round
                    case rel => exact ⟨g * 10, d + 1, by omega, by go_num, by go_num, Nat.lt_of_lt_of_le HG2.out HG3.out, HGN, HG2.out⟩
                    case measure => simp [intOf]; omega
                  · obtain rfl : d = 9 := by omega
                    have HGF : Hid (g = frac9 (fracL l)) := Lib.hid (by rw [← HGD.out]; simp)
                    have HG9 : Hid (g < 1000000000) := Lib.hid hg9
                    have hg10 : g < 1000000000 := hg9
                    clear HGD hgd hg9
                    cases o
                    · obtain ⟨hv1, hv2⟩ := Held33_f HH.out
                      by_cases hr : v = 8589934592 ∧ (0 < g ∨ b = true)
                      · have HE : Hid (parseE l = 7) := Lib.hid (HFIN.out.1 (.inr (by rw [← HVW.out, ← HGF.out, ← HMB.out, ← hv1]; exact hr)))
                        have HP : Hid (parseP l = 0) := Lib.hid (if_neg (by rw [HE.out]; decide))
                        obtain ⟨rfl, hr⟩ := hr
                        by_cases hg : 0 < g
                        · clear hv1 hr
                          go_wp2_with fail
                          go_ret2
                          exact ⟨ret_parse_err HP.out HE.out, rfl⟩
                        · obtain rfl : g = 0 := by omega
                          obtain rfl : b = true := by rcases hr with h | h; exact absurd h hg; exact h
                          clear hv1 hr hg
                          go_wp2_with fail
                          go_ret2
                          exact ⟨ret_parse_err HP.out HE.out, rfl⟩
                      · have hno : ¬ (8589934592 < V (dig 10) 10 (wholeL l) ∨ (V (dig 10) 10 (wholeL l) = 8589934592 ∧ (0 < frac9 (fracL l) ∨ more (fracL l) = true))) := by
                          rw [← HVW.out, ← HGF.out, ← HMB.out, ← hv1]
                          rintro (h | h)
                          · omega
                          · exact hr h
                        obtain ⟨hE, hP⟩ := HFIN.out.2 hno
                        rw [← HVW.out, ← HGF.out, ← HMB.out, ← hv1, HNEG.out] at hP
                        have HE := Lib.hid hE
                        have HP := Lib.hid hP
                        have HR := Lib.hid hr
                        clear hno hE hP hv1 hr
                        have hg9 : g < 1000000000 := HG9.out
                        have q1 : (g : Int) * 512 / 1000000000 = ((g / 1953125 : Nat) : Int) := by omega
                        by_cases hv : v = 8589934592
                        · subst hv
                          obtain rfl : g = 0 := by
                            apply Nat.eq_zero_of_not_pos
                            exact fun h => HR.out ⟨rfl, .inl h⟩
                          obtain rfl : b = false := by
                            cases b
                            · rfl
                            · exact absurd ⟨rfl, .inr rfl⟩ HR.out
                          go_wp2_with fail
                          rw [q_of _ (by omega) (by omega)]
                          go_wp2_with fail
                          go_ret2
                          exact ⟨ret_parse (by rw [HP.out]; first | rfl | simp) HE.out, rfl⟩
                        · have hne : ((v : Int) == 8589934592) = false := by simp; omega
                          have hvlt : v < 8589934592 := by omega
                          by_cases hx : g % 1953125 = 0
                          · have hxi : (g : Int) * 512 % 1000000000 = 0 := by omega
                            have HX := Lib.hid hx
                            clear hx hv hv2
                            cases b
                            · go_wp2_with fail
                              rw [q_of _ (by omega) (by omega)]
                              go_wp2_with fail
                              go_ret2
                              exact ⟨ret_parse (by rw [HP.out, decide_eq_true HX.out]; simp; try omega) HE.out, rfl⟩
                            · go_wp2_with fail
                              rw [q_of _ (by omega) (by omega)]
                              go_wp2_with fail
                              go_ret2
                              exact ⟨ret_parse (by rw [HP.out]; simp; try omega) HE.out, rfl⟩
                          · have hxi : ((g : Int) * 512 % 1000000000 == 0) = false := by simp; omega
                            have HX := Lib.hid hx
                            clear hx hv hv2
                            go_wp2_with fail
                            rw [q_of _ (by omega) (by omega)]
                            go_wp2_with fail
                            go_ret2
                            exact ⟨ret_parse (by rw [HP.out, decide_eq_false HX.out]; simp; try omega) HE.out, rfl⟩
                    · have HE : Hid (parseE l = 7) := Lib.hid (HFIN.out.1 (.inl (by rw [← HVW.out]; exact Held33_t HH.out)))
                      have HP : Hid (parseP l = 0) := Lib.hid (if_neg (by rw [HE.out]; decide))
                      go_wp2_with fail
                      go_ret2
                      exact ⟨ret_parse_err HP.out HE.out, rfl⟩
        · have HE : Hid (parseE l = 2) := Lib.hid (by
            unfold parseE
            refine if_pos (.inl ?_)
            unfold wholeL
            rw [HM.out]
            exact whole_bad (m := m) (j - 1) hjm HA.out (by rw [HC.out]; exact h46) HDN.out)
          have HP : Hid (parseP l = 0) := Lib.hid (if_neg (by rw [HE.out]; decide))
          have h46n : ((s[j].toNat : Int) != 46) = true := by
            have : s[j].toNat ≠ 46 := fun e => h46 (UInt8.toNat_inj.1 e)
            simp; omega
          by_cases hj0 : j = 1
          · subst hj0
            rcases hnd with e1 | ⟨e1, e2⟩
            all_goals
              go_wp2_with fail
              go_ret2
              exact ⟨ret_parse_err HP.out HE.out, rfl⟩
          · have hjne : ((j : Int) == 1) = false := by simp; omega
            rcases hnd with e1 | ⟨e1, e2⟩
            all_goals
              go_wp2_with fail
              go_ret2
              exact ⟨ret_parse_err HP.out HE.out, rfl⟩
    · obtain rfl : j = s.size := by omega
      by_cases hj0 : s.size = 1
      · have HE : Hid (parseE l = 2) := Lib.hid (by
          unfold parseE
          refine if_pos (.inl ?_)
          unfold wholeL
          rw [HM.out, show m = [] from List.eq_nil_of_length_eq_zero (by rw [HML.out]; omega)]; rfl)
        have HP : Hid (parseP l = 0) := Lib.hid (if_neg (by rw [HE.out]; decide))
        have hje : ((s.size : Int) == 1) = true := by rw [beq_iff_eq]; omega
        go_wp2_with fail
        go_ret2
        exact ⟨ret_parse_err HP.out HE.out, rfl⟩
      · have hjne : ((s.size : Int) == 1) = false := by rw [beq_eq_false_iff_ne]; omega
        have hj1' : 1 < s.size := by omega
        clear hj0
        have HWL : Hid (wholeL l = m ∧ rest l = []) := Lib.hid (by
          have := whole_digits (m := m) (s.size - 1) HA.out (.inl (by rw [HML.out]))
          rw [List.take_of_length_le (by rw [HML.out]; omega), List.drop_eq_nil_of_le (by rw [HML.out]; omega)] at this
          exact ⟨by unfold wholeL; rw [HM.out]; exact this.1, by unfold rest; rw [HM.out]; exact this.2⟩)
        have HFL : Hid (fracL l = [48]) := Lib.hid (by unfold fracL; rw [if_pos HWL.out.2])
        have HTK : Hid (m.take (s.size - 1) = m) := Lib.hid (List.take_of_length_le (by rw [HML.out]; omega))
        have HVW : Hid (V (dig 10) 10 (m.take (s.size - 1)) = V (dig 10) 10 (wholeL l)) := Lib.hid (by rw [HTK.out, HWL.out.1])
        have HFIN := Lib.hid (final_E (l := l) (by rw [HWL.out.1]; intro e; have := HML.out; rw [e] at this; simp at this; omega) (by rw [HWL.out.1, ← HTK.out]; exact HA.out) (by rw [HFL.out]; simp) (by rw [HFL.out]; decide))
        have HMB : Hid (false = more (fracL l)) := Lib.hid (by rw [HFL.out]; rfl)
        go_wp2_with fail
        go_loop [9, 10] (fun gv dv => ∃ (g d : Nat), d ≤ 9 ∧ gv = .int .i64 (g : Int) ∧ dv = .int .i64 (d : Int) ∧ g < 10 ^ 9 ∧ Hid (g * 10 ^ (9 - d) = frac9 (fracL l)) ∧ g < 10 ^ d) (fun _ dv => 9 - (intOf dv).toNat)
        case atStart => exact ⟨0, 0, by omega, rfl, rfl, by decide, Lib.hid (by rw [HFL.out]; decide), by decide⟩
        case round =>
          obtain ⟨g, d, hd, rfl, rfl, hg9, HGD, hgd⟩ := hrel
          by_cases hlt3 : d < 9
          · have hgd2 : g * 10 < 10 ^ (d + 1) := by rw [Nat.pow_succ]; omega
            have hgd3 : 10 ^ (d + 1) ≤ 10 ^ 9 := Nat.pow_le_pow_right (by omega) (by omega)
            have HGN : Hid (g * 10 * 10 ^ (9 - (d + 1)) = frac9 (fracL l)) := Lib.hid (by rw [← HGD.out, Nat.mul_assoc, ← Nat.pow_succ', show (9 - (d + 1)).succ = 9 - d by omega])
            have HG2 := Lib.hid hgd2
            have HG3 := Lib.hid hgd3
            have hg10 : g * 10 < 1000000000 := Nat.lt_of_lt_of_le hgd2 hgd3
            clear hgd2 hgd3 hgd hg9
            go_wp2_with fail
            go_round
            case rel => exact ⟨g * 10, d + 1, by omega, by go_num, by go_num, Nat.lt_of_lt_of_le HG2.out HG3.out, HGN, HG2.out⟩
            case measure => simp [intOf]; omega
          · obtain rfl : d = 9 := by omega
            have HGF : Hid (g = frac9 (fracL l)) := Lib.hid (by rw [← HGD.out]; simp)
            have HG9 : Hid (g < 1000000000) := Lib.hid hg9
            have hg10 : g < 1000000000 := hg9
            clear HGD hgd hg9
            cases o
            · obtain ⟨hv1, hv2⟩ := Held33_f HH.out
              by_cases hr : v = 8589934592 ∧ (0 < g ∨ false = true)
              · have HE : Hid (parseE l = 7) := Lib.hid (HFIN.out.1 (.inr (by rw [← HVW.out, ← HGF.out, ← HMB.out, ← hv1]; exact hr)))
                have HP : Hid (parseP l = 0) := Lib.hid (if_neg (by rw [HE.out]; decide))
                obtain ⟨rfl, hr⟩ := hr
                by_cases hg : 0 < g
                · clear hv1 hr
                  go_wp2_with fail
                  go_ret2
                  exact ⟨ret_parse_err HP.out HE.out, rfl⟩
                · obtain rfl : g = 0 := by omega
                  rcases hr with h | h
                  · exact absurd h hg
                  · cases h
              · have hno : ¬ (8589934592 < V (dig 10) 10 (wholeL l) ∨ (V (dig 10) 10 (wholeL l) = 8589934592 ∧ (0 < frac9 (fracL l) ∨ more (fracL l) = true))) := by
                  rw [← HVW.out, ← HGF.out, ← HMB.out, ← hv1]
                  rintro (h | h)
                  · omega
                  · exact hr h
                obtain ⟨hE, hP⟩ := HFIN.out.2 hno
                rw [← HVW.out, ← HGF.out, ← HMB.out, ← hv1, HNEG.out] at hP
                have HE := Lib.hid hE
                have HP := Lib.hid hP
                have HR := Lib.hid hr
                clear hno hE hP hv1 hr
                have hg9 : g < 1000000000 := HG9.out
                have q1 : (g : Int) * 512 / 1000000000 = ((g / 1953125 : Nat) : Int) := by omega
                by_cases hv : v = 8589934592
                · subst hv
                  obtain rfl : g = 0 := by
                    apply Nat.eq_zero_of_not_pos
                    exact fun h => HR.out ⟨rfl, .inl h⟩
                  go_wp2_with fail
                  rw [q_of _ (by omega) (by omega)]
                  go_wp2_with fail
                  go_ret2
                  exact ⟨ret_parse (by rw [HP.out]; first | rfl | simp) HE.out, rfl⟩
                · have hne : ((v : Int) == 8589934592) = false := by simp; omega
                  have hvlt : v < 8589934592 := by omega
                  by_cases hx : g % 1953125 = 0
                  · have hxi : (g : Int) * 512 % 1000000000 = 0 := by omega
                    have HX := Lib.hid hx
                    clear hx hv hv2
                    go_wp2_with fail
                    rw [q_of _ (by omega) (by omega)]
                    go_wp2_with fail
                    go_ret2
                    exact ⟨ret_parse (by rw [HP.out, decide_eq_true HX.out]; simp; try omega) HE.out, rfl⟩
                  · have hxi : ((g : Int) * 512 % 1000000000 == 0) = false := by simp; omega
                    have HX := Lib.hid hx
                    clear hx hv hv2
                    go_wp2_with fail
                    rw [q_of _ (by omega) (by omega)]
                    go_wp2_with fail
                    go_ret2
                    exact ⟨ret_parse (by rw [HP.out, decide_eq_false HX.out]; simp; try omega) HE.out, rfl⟩
            · have HE : Hid (parseE l = 7) := Lib.hid (HFIN.out.1 (.inl (by rw [← HVW.out]; exact Held33_t HH.out)))
              have HP : Hid (parseP l = 0) := Lib.hid (if_neg (by rw [HE.out]; decide))
              go_wp2_with fail
              go_ret2
              exact ⟨ret_parse_err HP.out HE.out, rfl⟩

set_option maxRecDepth 100000 in
set_option maxHeartbeats 8000000 in
theorem refparse_pos (s : ByteArray) (l m : List UInt8) (w : World) (hs : s.size ≤ 1000000) (h0 : 0 < s.size) (hm0 : s[0] ≠ 45)
    (HM : Hid (Txt.num l = m)) (HNEG : Hid (Txt.neg l = false)) (HML : Hid (m.length = s.size - 0)) (HGM : Hid (∀ i (_ : 0 ≤ i) (h2 : i < s.size) (h3 : i - 0 < m.length), m[i - 0] = s[i])) :
    Calls Tryd.prog 19 #[.string s] w fun e w' => e = .returned (.tuple #[.float .f64 (fl (parseP l)), .int .i64 ((parseE l : Nat) : Int)]) ∧ w = w' := by
  have k45 : ((s[0].toNat : Int) == 45) = false := by
    have : s[0].toNat ≠ 45 := fun e => hm0 (UInt8.toNat_inj.1 e)
    simp; omega
  clear hm0
  go_enter Tryd.func19, Tryd.ntmps19
  go_wp2_with fail
  go_loop [4, 6, 8] (fun iv nv ov => ∃ (j v : Nat) (o : Bool), 0 ≤ j ∧ j ≤ s.size ∧ iv = .int .i64 (j : Int) ∧ nv = .int .i64 (v : Int) ∧ ov = .bool o ∧ v ≤ 85899345929 ∧ Hid (allIn decs (m.take (j - 0)) = true) ∧ Hid (Held33 (m.take (j - 0)) o v)) (fun iv _ _ => s.size - (intOf iv).toNat)
  case atStart => exact ⟨0, 0, false, by omega, by omega, rfl, rfl, rfl, by omega, Lib.hid (by simp [allIn]), Lib.hid (.inl ⟨rfl, by simp [V], by omega⟩)⟩
  case round =>
    obtain ⟨j, v, o, hj1, hj2, rfl, rfl, rfl, hv85, HA, HH⟩ := hrel
    by_cases hjs : j < s.size
    · have hjm : j - 0 < m.length := by rw [HML.out]; omega
      have hc := HGM.out j hj1 hjs hjm
      by_cases hx : 48 ≤ s[j].toNat ∧ s[j].toNat ≤ 57
      · obtain ⟨hx1, hx2⟩ := hx
        have e1 : decide ((48 : Int) ≤ (s[j].toNat : Int)) = true := by simp; omega
        have e2 : decide ((s[j].toNat : Int) ≤ 57) = true := by simp; omega
        have HS : Hid (V (dig 10) 10 (m.take (j + 1 - 0)) = V (dig 10) 10 (m.take (j - 0)) * 10 + (s[j].toNat - 48)) := Lib.hid (by rw [show j + 1 - 0 = j - 0 + 1 by omega, V_take_succ _ _ _ _ hjm, hc, dig10 _ hx2])
        have HAN : Hid (allIn decs (m.take (j + 1 - 0)) = true) := Lib.hid (by
          rw [show j + 1 - 0 = j - 0 + 1 by omega, List.take_succ_eq_append_getElem hjm, hc]; exact allIn_snoc _ _ _ HA.out ((decs_iff _).2 ⟨hx1, hx2⟩))
        clear hc
        cases o
        · obtain ⟨hv1, hv2⟩ := Held33_f HH.out
          by_cases hbig : 8589934592 < v * 10 + (s[j].toNat - 48)
          · have HN : Hid (Held33 (m.take (j + 1 - 0)) true (v * 10 + (s[j].toNat - 48))) := Lib.hid (.inr ⟨rfl, by rw [HS.out, ← hv1]; exact hbig⟩)
            have hb1 : decide ((8589934592 : Int) < (v : Int) * 10 + ((s[j].toNat : Int) - 48)) = true := by simp; omega
            clear hv1
            go_wp2_with fail
            go_round
            case rel => exact ⟨j + 1, v * 10 + (s[j].toNat - 48), true, by omega, by omega, by go_num, by go_num, by first | rfl | (rw [decide_eq_true (by omega)]), by omega, HAN, HN⟩
            case measure => simp [intOf]; omega
          · have HN : Hid (Held33 (m.take (j + 1 - 0)) false (v * 10 + (s[j].toNat - 48))) := Lib.hid (.inl ⟨rfl, by rw [HS.out, ← hv1], by omega⟩)
            clear hv1
            go_wp2_with fail
            go_round
            case rel => exact ⟨j + 1, v * 10 + (s[j].toNat - 48), false, by omega, by omega, by go_num, by go_num, by first | rfl | (rw [decide_eq_false (by omega)]), by omega, HAN, HN⟩
            case measure => simp [intOf]; omega
        · have HN : Hid (Held33 (m.take (j + 1 - 0)) true v) := Lib.hid (.inr ⟨rfl, by have := Held33_t HH.out; rw [HS.out]; omega⟩)
          go_wp2_with fail
          go_round
          case rel => exact ⟨j + 1, v, true, by omega, by omega, by go_num, rfl, rfl, hv85, HAN, HN⟩
          case measure => simp [intOf]; omega
      · have hdn : decs.contains m[j - 0] = false := by
          rw [hc]
          cases hq : decs.contains s[j]
          · rfl
          · exact absurd ((decs_iff _).1 hq) hx
        have HDN := Lib.hid hdn
        have HC := Lib.hid hc
        clear hdn hc
        -- no digit stands here
        have hnd : decide ((48 : Int) ≤ (s[j].toNat : Int)) = false ∨ (decide ((48 : Int) ≤ (s[j].toNat : Int)) = true ∧ decide ((s[j].toNat : Int) ≤ 57) = false) := by simp; omega
        by_cases h46 : s[j] = 46
        · by_cases hj0 : j = 0
          · have HE : Hid (parseE l = 2) := Lib.hid (by
              have := whole_digits (m := m) (j - 0) HA.out (.inr ⟨hjm, by rw [HC.out]; exact h46⟩)
              unfold parseE
              refine if_pos (.inl ?_)
              unfold wholeL
              rw [HM.out, this.1, show j - 0 = 0 by omega]; rfl)
            have HP : Hid (parseP l = 0) := Lib.hid (if_neg (by rw [HE.out]; decide))
            subst hj0
            rcases hnd with e1 | ⟨e1, e2⟩
            all_goals
              go_wp2_with fail
              go_ret2
              exact ⟨ret_parse_err HP.out HE.out, rfl⟩
          · have hj1' : 0 < j := by omega
            have hjne : ((j : Int) == 0) = false := by simp; omega
            have e1 : decide ((48 : Int) ≤ (s[j].toNat : Int)) = false := by rw [h46]; decide
            clear hnd hx hj0
            have HWL : Hid (wholeL l = m.take (j - 0) ∧ rest l = m.drop (j - 0)) := Lib.hid (by
              have := whole_digits (m := m) (j - 0) HA.out (.inr ⟨hjm, by rw [HGM.out j hj1 hjs hjm]; exact h46⟩)
              exact ⟨by unfold wholeL; rw [HM.out]; exact this.1, by unfold rest; rw [HM.out]; exact this.2⟩)
            obtain ⟨f, hf⟩ : ∃ f, f = m.drop (j + 1 - 0) := ⟨_, rfl⟩
            have HFL : Hid (fracL l = f) := Lib.hid (by
              unfold fracL
              rw [HWL.out.2, if_neg (by intro e; have := congrArg List.length e; rw [List.length_drop, HML.out] at this; simp at this; omega), List.tail_drop, hf, show j - 0 + 1 = j + 1 - 0 by omega])
            have hfl : f.length = s.size - (j + 1) := by rw [hf, List.length_drop, HML.out]; omega
            have HGL : Hid (∀ i (h1 : j + 1 ≤ i) (h2 : i < s.size) (h3 : i - (j + 1) < f.length), f[i - (j + 1)] = s[i]) := Lib.hid (fun i h1 h2 h3 => by
              subst hf
              rw [List.getElem_drop]
              have hx : j + 1 - 0 + (i - (j + 1)) = i - 0 := by omega
              have hlen : i - 0 < m.length := by rw [HML.out]; omega
              rw [← HGM.out i (by omega) h2 hlen]
              congr 1)
            have HFLL := Lib.hid hfl
            have s46 : s[j].toNat = 46 := by rw [h46]; rfl
            clear hf hfl
            have HS46 := Lib.hid h46
            by_cases hend : s.size ≤ j + 1
            · have HE : Hid (parseE l = 2) := Lib.hid (by unfold parseE; rw [HFL.out, show f = [] from List.eq_nil_of_length_eq_zero (by rw [HFLL.out]; omega)]; exact if_pos (.inr rfl))
              have HP : Hid (parseP l = 0) := Lib.hid (if_neg (by rw [HE.out]; decide))
              go_wp2_with fail
              go_ret2
              exact ⟨ret_parse_err HP.out HE.out, rfl⟩
            have hend2 : j + 1 < s.size := by omega
            go_wp2_with fail
            go_loop [4, 9, 10, 11] (fun iv gv dv bv => ∃ (i g d : Nat) (b : Bool), j + 1 ≤ i ∧ i ≤ s.size ∧ iv = .int .i64 (i : Int) ∧ gv = .int .i64 (g : Int) ∧ dv = .int .i64 (d : Int) ∧ bv = .bool b ∧ d ≤ 9 ∧ g < 10 ^ d ∧ Hid (allIn decs (f.take (i - (j + 1))) = true) ∧ Hid (g = V (dig 10) 10 (f.take d)) ∧ Hid (d = min (i - (j + 1)) 9) ∧ Hid (b = more (f.take (i - (j + 1))))) (fun iv _ _ _ => s.size - (intOf iv).toNat)
            case atStart => exact ⟨j + 1, 0, 0, false, by omega, by omega, by go_num, rfl, rfl, rfl, by omega, by decide, Lib.hid (by simp [allIn]), Lib.hid (by simp [V]), Lib.hid (by omega), Lib.hid (by simp [more])⟩
            case round =>
              obtain ⟨i, g, d, b, hi1, hi2, rfl, rfl, rfl, rfl, hd9, hgd, HAF, HGV, HDM, HBM⟩ := hrel
              by_cases hlt2 : i < s.size
              · have hif : i - (j + 1) < f.length := by rw [HFLL.out]; omega
                have hc := HGL.out i hi1 hlt2 hif
                by_cases hx : 48 ≤ s[i].toNat ∧ s[i].toNat ≤ 57
                · obtain ⟨hx1, hx2⟩ := hx
                  have e1 : decide ((s[i].toNat : Int) < 48) = false := by simp; omega
                  have e2 : decide ((57 : Int) < (s[i].toNat : Int)) = false := by simp; omega
                  have HAN : Hid (allIn decs (f.take (i + 1 - (j + 1))) = true) := Lib.hid (by
                    rw [show i + 1 - (j + 1) = i - (j + 1) + 1 by omega, List.take_succ_eq_append_getElem hif, hc]
                    exact allIn_snoc _ _ _ HAF.out ((decs_iff _).2 ⟨hx1, hx2⟩))
                  by_cases hd : d < 9
                  · have hdi : d = i - (j + 1) := by have := HDM.out; omega
                    have HGN : Hid (g * 10 + (s[i].toNat - 48) = V (dig 10) 10 (f.take (d + 1))) := Lib.hid (by
                      rw [HGV.out, hdi, V_take_succ _ _ _ _ hif, hc, dig10 _ hx2])
                    have HDN : Hid (d + 1 = min (i + 1 - (j + 1)) 9) := Lib.hid (by omega)
                    have HBN : Hid (b = more (f.take (i + 1 - (j + 1)))) := Lib.hid (by
                      rw [HBM.out]
                      unfold more
                      rw [List.drop_eq_nil_of_le (by rw [List.length_take]; omega), List.drop_eq_nil_of_le (by rw [List.length_take]; omega)])
                    have hgn : g * 10 + (s[i].toNat - 48) < 10 ^ (d + 1) := by rw [Nat.pow_succ]; omega
                    have hg9 : 10 ^ (d + 1) ≤ 10 ^ 9 := Nat.pow_le_pow_right (by omega) (by omega)
                    have hg10 : g * 10 + (s[i].toNat - 48) < 1000000000 := Nat.lt_of_lt_of_le hgn hg9
                    have HGN2 := Lib.hid hgn
                    clear hgn hg9 hgd hc hdi
                    go_wp2_with fail
                    go_round
                    case rel => exact ⟨i + 1, g * 10 + (s[i].toNat - 48), d + 1, b, by omega, by omega, by go_num, by go_num, by go_num, rfl, by omega, HGN2.out, HAN, HGN, HDN, HBN⟩
                    case measure => simp [intOf]; omega
                  · have hd9' : d = 9 := by omega
                    subst hd9'
                    have HBN : Hid ((b || (s[i] != 48)) = more (f.take (i + 1 - (j + 1)))) := Lib.hid (by
                      rw [HBM.out]
                      unfold more
                      have h9 : 9 ≤ (f.take (i - (j + 1))).length := by have := HDM.out; rw [List.length_take]; omega
                      rw [show i + 1 - (j + 1) = i - (j + 1) + 1 by omega, List.take_succ_eq_append_getElem hif, hc, List.drop_append_of_le_length h9, List.any_append]
                      simp)
                    have HDN : Hid (9 = min (i + 1 - (j + 1)) 9) := Lib.hid (by have := HDM.out; omega)
                    cases b
                    · by_cases h0 : s[i].toNat = 48
                      · have hb0 : ((s[i].toNat : Int) != 48) = false := by simp; omega
                        have HB0 : Hid (false = more (f.take (i + 1 - (j + 1)))) := Lib.hid (by rw [← HBN.out]; have : s[i] = 48 := UInt8.toNat_inj.1 h0; rw [this]; rfl)
                        clear hc
                        go_wp2_with fail
                        go_round
                        case rel => exact ⟨i + 1, g, 9, false, by omega, by omega, by go_num, rfl, rfl, by first | rfl | simp [hb0], by omega, hgd, HAN, HGV, HDN, HB0⟩
                        case measure => simp [intOf]; omega
                      · have hb0 : ((s[i].toNat : Int) != 48) = true := by simp; omega
                        have hs0 : (s[i] != 48) = true := by
                          simp only [bne_iff_ne, ne_eq]
                          exact fun e => h0 (by rw [e]; rfl)
                        have HB0 : Hid (true = more (f.take (i + 1 - (j + 1)))) := Lib.hid (by rw [← HBN.out, hs0]; rfl)
                        clear hs0
                        clear hc
                        go_wp2_with fail
                        go_round
                        case rel => exact ⟨i + 1, g, 9, true, by omega, by omega, by go_num, rfl, rfl, by first | rfl | simp [hb0], by omega, hgd, HAN, HGV, HDN, HB0⟩
                        case measure => simp [intOf]; omega
                    · have HB0 : Hid (true = more (f.take (i + 1 - (j + 1)))) := Lib.hid (by rw [← HBN.out]; rfl)
                      clear hc
                      go_wp2_with fail
                      go_round
                      case rel => exact ⟨i + 1, g, 9, true, by omega, by omega, by go_num, rfl, rfl, by first | rfl | simp, by omega, hgd, HAN, HGV, HDN, HB0⟩
                      case measure => simp [intOf]; omega
                · have HE : Hid (parseE l = 2) := Lib.hid (by
                    unfold parseE
                    rw [HFL.out]
                    refine if_pos (.inr ?_)
                    unfold decE decR
                    rw [if_neg]
                    rintro ⟨_, h⟩
                    have := (decs_iff _).1 (allIn_ok h f[i - (j + 1)] (List.getElem_mem hif))
                    rw [hc] at this
                    exact hx this)
                  have HP : Hid (parseP l = 0) := Lib.hid (if_neg (by rw [HE.out]; decide))
                  clear hc
                  by_cases h48 : s[i].toNat < 48
                  · have e1 : decide ((s[i].toNat : Int) < 48) = true := by simp; omega
                    go_wp2_with fail
                    go_ret2
                    exact ⟨ret_parse_err HP.out HE.out, rfl⟩
                  · have e1 : decide ((s[i].toNat : Int) < 48) = false := by simp; omega
                    have e2 : decide ((57 : Int) < (s[i].toNat : Int)) = true := by simp; omega
                    go_wp2_with fail
                    go_ret2
                    exact ⟨ret_parse_err HP.out HE.out, rfl⟩
              · obtain rfl : i = s.size := by omega
                have HTF : Hid (f.take (s.size - (j + 1)) = f) := Lib.hid (List.take_of_length_le (by rw [HFLL.out]; exact Nat.le_refl _))
                rw [HTF.out] at HAF HBM
                have HMB : Hid (b = more (fracL l)) := Lib.hid (by rw [HFL.out]; exact HBM.out)
                have HVW : Hid (V (dig 10) 10 (m.take (j - 0)) = V (dig 10) 10 (wholeL l)) := Lib.hid (by rw [HWL.out.1])
                have HFIN := Lib.hid (final_E (l := l) (by rw [HWL.out.1]; intro e; have := congrArg List.length e; rw [List.length_take, HML.out] at this; simp only [List.length_nil] at this; omega) (by rw [HWL.out.1]; exact HA.out) (by rw [HFL.out]; intro e; have := HFLL.out; rw [e] at this; simp at this; omega) (by rw [HFL.out]; exact HAF.out))
                have HST : Hid (g * 10 ^ (9 - d) = frac9 (fracL l)) := Lib.hid (by
                  rw [HFL.out]
                  unfold frac9
                  have hdl : d = min f.length 9 := by rw [HFLL.out]; exact HDM.out
                  have h1 : f.take d = f.take 9 := by
                    rw [hdl]
                    by_cases hc : f.length ≤ 9
                    · rw [Nat.min_eq_left hc, List.take_of_length_le (Nat.le_refl _), List.take_of_length_le hc]
                    · rw [Nat.min_eq_right (by omega)]
                  rw [HGV.out, h1, List.length_take, show min 9 f.length = d by omega])
                have hg9 : g < 10 ^ 9 := Nat.lt_of_lt_of_le hgd (Nat.pow_le_pow_right (by omega) hd9)
                have HGD0 := Lib.hid hgd
                have HG90 := Lib.hid hg9
                clear hgd hg9 HGV HDM HTF
                go_wp2_with fail
                go_loop [9, 10] (fun gv dv => ∃ (g d : Nat), d ≤ 9 ∧ gv = .int .i64 (g : Int) ∧ dv = .int .i64 (d : Int) ∧ g < 10 ^ 9 ∧ Hid (g * 10 ^ (9 - d) = frac9 (fracL l)) ∧ g < 10 ^ d) (fun _ dv => 9 - (intOf dv).toNat)
                case atStart => exact ⟨g, d, hd9, rfl, rfl, HG90.out, HST, HGD0.out⟩
                case round =>
                  obtain ⟨g, d, hd, rfl, rfl, hg9, HGD, hgd⟩ := hrel
                  by_cases hlt3 : d < 9
                  · have hgd2 : g * 10 < 10 ^ (d + 1) := by rw [Nat.pow_succ]; omega
                    have hgd3 : 10 ^ (d + 1) ≤ 10 ^ 9 := Nat.pow_le_pow_right (by omega) (by omega)
                    have HGN : Hid (g * 10 * 10 ^ (9 - (d + 1)) = frac9 (fracL l)) := Lib.hid (by rw [← HGD.out, Nat.mul_assoc, ← Nat.pow_succ', show (9 - (d + 1)).succ = 9 - d by omega])
                    have HG2 := Lib.hid hgd2
                    have HG3 := Lib.hid hgd3
                    have hg10 : g * 10 < 1000000000 := Nat.lt_of_lt_of_le hgd2 hgd3
                    clear hgd2 hgd3 hgd hg9
                    go_wp2_with fail
                    go_round
                    case rel => exact ⟨g * 10, d + 1, by omega, by go_num, by go_num, Nat.lt_of_lt_of_le HG2.out HG3.out, HGN, HG2.out⟩
                    case measure => simp [intOf]; omega
                  · obtain rfl : d = 9 := by omega
                    have HGF : Hid (g = frac9 (fracL l)) := Lib.hid (by rw [← HGD.out]; simp)
                    have HG9 : Hid (g < 1000000000) := Lib.hid hg9
                    have hg10 : g < 1000000000 := hg9
                    clear HGD hgd hg9
                    cases o
                    · obtain ⟨hv1, hv2⟩ := Held33_f HH.out
                      by_cases hr : v = 8589934592 ∧ (0 < g ∨ b = true)
                      · have HE : Hid (parseE l = 7) := Lib.hid (HFIN.out.1 (.inr (by rw [← HVW.out, ← HGF.out, ← HMB.out, ← hv1]; exact hr)))
                        have HP : Hid (parseP l = 0) := Lib.hid (if_neg (by rw [HE.out]; decide))
                        obtain ⟨rfl, hr⟩ := hr
                        by_cases hg : 0 < g
                        · clear hv1 hr
                          go_wp2_with fail
                          go_ret2
                          exact ⟨ret_parse_err HP.out HE.out, rfl⟩
                        · obtain rfl : g = 0 := by omega
                          obtain rfl : b = true := by rcases hr with h | h; exact absurd h hg; exact h
                          clear hv1 hr hg
                          go_wp2_with fail
                          go_ret2
                          exact ⟨ret_parse_err HP.out HE.out, rfl⟩
                      · have hno : ¬ (8589934592 < V (dig 10) 10 (wholeL l) ∨ (V (dig 10) 10 (wholeL l) = 8589934592 ∧ (0 < frac9 (fracL l) ∨ more (fracL l) = true))) := by
                          rw [← HVW.out, ← HGF.out, ← HMB.out, ← hv1]
                          rintro (h | h)
                          · omega
                          · exact hr h
                        obtain ⟨hE, hP⟩ := HFIN.out.2 hno
                        rw [← HVW.out, ← HGF.out, ← HMB.out, ← hv1, HNEG.out] at hP
                        have HE := Lib.hid hE
                        have HP := Lib.hid hP
                        have HR := Lib.hid hr
                        clear hno hE hP hv1 hr
                        have hg9 : g < 1000000000 := HG9.out
                        have q1 : (g : Int) * 512 / 1000000000 = ((g / 1953125 : Nat) : Int) := by omega
                        by_cases hv : v = 8589934592
                        · subst hv
                          obtain rfl : g = 0 := by
                            apply Nat.eq_zero_of_not_pos
                            exact fun h => HR.out ⟨rfl, .inl h⟩
                          obtain rfl : b = false := by
                            cases b
                            · rfl
                            · exact absurd ⟨rfl, .inr rfl⟩ HR.out
                          go_wp2_with fail
                          rw [q_of _ (by omega) (by omega)]
                          go_wp2_with fail
                          go_ret2
                          exact ⟨ret_parse (by rw [HP.out]; first | rfl | simp) HE.out, rfl⟩
                        · have hne : ((v : Int) == 8589934592) = false := by simp; omega
                          have hvlt : v < 8589934592 := by omega
                          by_cases hx : g % 1953125 = 0
                          · have hxi : (g : Int) * 512 % 1000000000 = 0 := by omega
                            have HX := Lib.hid hx
                            clear hx hv hv2
                            cases b
                            · go_wp2_with fail
                              rw [q_of _ (by omega) (by omega)]
                              go_wp2_with fail
                              go_ret2
                              exact ⟨ret_parse (by rw [HP.out, decide_eq_true HX.out]; simp; try omega) HE.out, rfl⟩
                            · go_wp2_with fail
                              rw [q_of _ (by omega) (by omega)]
                              go_wp2_with fail
                              go_ret2
                              exact ⟨ret_parse (by rw [HP.out]; simp; try omega) HE.out, rfl⟩
                          · have hxi : ((g : Int) * 512 % 1000000000 == 0) = false := by simp; omega
                            have HX := Lib.hid hx
                            clear hx hv hv2
                            go_wp2_with fail
                            rw [q_of _ (by omega) (by omega)]
                            go_wp2_with fail
                            go_ret2
                            exact ⟨ret_parse (by rw [HP.out, decide_eq_false HX.out]; simp; try omega) HE.out, rfl⟩
                    · have HE : Hid (parseE l = 7) := Lib.hid (HFIN.out.1 (.inl (by rw [← HVW.out]; exact Held33_t HH.out)))
                      have HP : Hid (parseP l = 0) := Lib.hid (if_neg (by rw [HE.out]; decide))
                      go_wp2_with fail
                      go_ret2
                      exact ⟨ret_parse_err HP.out HE.out, rfl⟩
        · have HE : Hid (parseE l = 2) := Lib.hid (by
            unfold parseE
            refine if_pos (.inl ?_)
            unfold wholeL
            rw [HM.out]
            exact whole_bad (m := m) (j - 0) hjm HA.out (by rw [HC.out]; exact h46) HDN.out)
          have HP : Hid (parseP l = 0) := Lib.hid (if_neg (by rw [HE.out]; decide))
          have h46n : ((s[j].toNat : Int) != 46) = true := by
            have : s[j].toNat ≠ 46 := fun e => h46 (UInt8.toNat_inj.1 e)
            simp; omega
          by_cases hj0 : j = 0
          · subst hj0
            rcases hnd with e1 | ⟨e1, e2⟩
            all_goals
              go_wp2_with fail
              go_ret2
              exact ⟨ret_parse_err HP.out HE.out, rfl⟩
          · have hjne : ((j : Int) == 0) = false := by simp; omega
            rcases hnd with e1 | ⟨e1, e2⟩
            all_goals
              go_wp2_with fail
              go_ret2
              exact ⟨ret_parse_err HP.out HE.out, rfl⟩
    · obtain rfl : j = s.size := by omega
      by_cases hj0 : s.size = 0
      · have HE : Hid (parseE l = 2) := Lib.hid (by
          unfold parseE
          refine if_pos (.inl ?_)
          unfold wholeL
          rw [HM.out, show m = [] from List.eq_nil_of_length_eq_zero (by rw [HML.out]; omega)]; rfl)
        have HP : Hid (parseP l = 0) := Lib.hid (if_neg (by rw [HE.out]; decide))
        have hje : ((s.size : Int) == 0) = true := by rw [beq_iff_eq]; omega
        go_wp2_with fail
        go_ret2
        exact ⟨ret_parse_err HP.out HE.out, rfl⟩
      · have hjne : ((s.size : Int) == 0) = false := by rw [beq_eq_false_iff_ne]; omega
        have hj1' : 0 < s.size := by omega
        clear hj0
        have HWL : Hid (wholeL l = m ∧ rest l = []) := Lib.hid (by
          have := whole_digits (m := m) (s.size - 0) HA.out (.inl (by rw [HML.out]))
          rw [List.take_of_length_le (by rw [HML.out]; omega), List.drop_eq_nil_of_le (by rw [HML.out]; omega)] at this
          exact ⟨by unfold wholeL; rw [HM.out]; exact this.1, by unfold rest; rw [HM.out]; exact this.2⟩)
        have HFL : Hid (fracL l = [48]) := Lib.hid (by unfold fracL; rw [if_pos HWL.out.2])
        have HTK : Hid (m.take (s.size - 0) = m) := Lib.hid (List.take_of_length_le (by rw [HML.out]; omega))
        have HVW : Hid (V (dig 10) 10 (m.take (s.size - 0)) = V (dig 10) 10 (wholeL l)) := Lib.hid (by rw [HTK.out, HWL.out.1])
        have HFIN := Lib.hid (final_E (l := l) (by rw [HWL.out.1]; intro e; have := HML.out; rw [e] at this; simp at this; omega) (by rw [HWL.out.1, ← HTK.out]; exact HA.out) (by rw [HFL.out]; simp) (by rw [HFL.out]; decide))
        have HMB : Hid (false = more (fracL l)) := Lib.hid (by rw [HFL.out]; rfl)
        go_wp2_with fail
        go_loop [9, 10] (fun gv dv => ∃ (g d : Nat), d ≤ 9 ∧ gv = .int .i64 (g : Int) ∧ dv = .int .i64 (d : Int) ∧ g < 10 ^ 9 ∧ Hid (g * 10 ^ (9 - d) = frac9 (fracL l)) ∧ g < 10 ^ d) (fun _ dv => 9 - (intOf dv).toNat)
        case atStart => exact ⟨0, 0, by omega, rfl, rfl, by decide, Lib.hid (by rw [HFL.out]; decide), by decide⟩
        case round =>
          obtain ⟨g, d, hd, rfl, rfl, hg9, HGD, hgd⟩ := hrel
          by_cases hlt3 : d < 9
          · have hgd2 : g * 10 < 10 ^ (d + 1) := by rw [Nat.pow_succ]; omega
            have hgd3 : 10 ^ (d + 1) ≤ 10 ^ 9 := Nat.pow_le_pow_right (by omega) (by omega)
            have HGN : Hid (g * 10 * 10 ^ (9 - (d + 1)) = frac9 (fracL l)) := Lib.hid (by rw [← HGD.out, Nat.mul_assoc, ← Nat.pow_succ', show (9 - (d + 1)).succ = 9 - d by omega])
            have HG2 := Lib.hid hgd2
            have HG3 := Lib.hid hgd3
            have hg10 : g * 10 < 1000000000 := Nat.lt_of_lt_of_le hgd2 hgd3
            clear hgd2 hgd3 hgd hg9
            go_wp2_with fail
            go_round
            case rel => exact ⟨g * 10, d + 1, by omega, by go_num, by go_num, Nat.lt_of_lt_of_le HG2.out HG3.out, HGN, HG2.out⟩
            case measure => simp [intOf]; omega
          · obtain rfl : d = 9 := by omega
            have HGF : Hid (g = frac9 (fracL l)) := Lib.hid (by rw [← HGD.out]; simp)
            have HG9 : Hid (g < 1000000000) := Lib.hid hg9
            have hg10 : g < 1000000000 := hg9
            clear HGD hgd hg9
            cases o
            · obtain ⟨hv1, hv2⟩ := Held33_f HH.out
              by_cases hr : v = 8589934592 ∧ (0 < g ∨ false = true)
              · have HE : Hid (parseE l = 7) := Lib.hid (HFIN.out.1 (.inr (by rw [← HVW.out, ← HGF.out, ← HMB.out, ← hv1]; exact hr)))
                have HP : Hid (parseP l = 0) := Lib.hid (if_neg (by rw [HE.out]; decide))
                obtain ⟨rfl, hr⟩ := hr
                by_cases hg : 0 < g
                · clear hv1 hr
                  go_wp2_with fail
                  go_ret2
                  exact ⟨ret_parse_err HP.out HE.out, rfl⟩
                · obtain rfl : g = 0 := by omega
                  rcases hr with h | h
                  · exact absurd h hg
                  · cases h
              · have hno : ¬ (8589934592 < V (dig 10) 10 (wholeL l) ∨ (V (dig 10) 10 (wholeL l) = 8589934592 ∧ (0 < frac9 (fracL l) ∨ more (fracL l) = true))) := by
                  rw [← HVW.out, ← HGF.out, ← HMB.out, ← hv1]
                  rintro (h | h)
                  · omega
                  · exact hr h
                obtain ⟨hE, hP⟩ := HFIN.out.2 hno
                rw [← HVW.out, ← HGF.out, ← HMB.out, ← hv1, HNEG.out] at hP
                have HE := Lib.hid hE
                have HP := Lib.hid hP
                have HR := Lib.hid hr
                clear hno hE hP hv1 hr
                have hg9 : g < 1000000000 := HG9.out
                have q1 : (g : Int) * 512 / 1000000000 = ((g / 1953125 : Nat) : Int) := by omega
                by_cases hv : v = 8589934592
                · subst hv
                  obtain rfl : g = 0 := by
                    apply Nat.eq_zero_of_not_pos
                    exact fun h => HR.out ⟨rfl, .inl h⟩
                  go_wp2_with fail
                  rw [q_of _ (by omega) (by omega)]
                  go_wp2_with fail
                  go_ret2
                  exact ⟨ret_parse (by rw [HP.out]; first | rfl | simp) HE.out, rfl⟩
                · have hne : ((v : Int) == 8589934592) = false := by simp; omega
                  have hvlt : v < 8589934592 := by omega
                  by_cases hx : g % 1953125 = 0
                  · have hxi : (g : Int) * 512 % 1000000000 = 0 := by omega
                    have HX := Lib.hid hx
                    clear hx hv hv2
                    go_wp2_with fail
                    rw [q_of _ (by omega) (by omega)]
                    go_wp2_with fail
                    go_ret2
                    exact ⟨ret_parse (by rw [HP.out, decide_eq_true HX.out]; simp; try omega) HE.out, rfl⟩
                  · have hxi : ((g : Int) * 512 % 1000000000 == 0) = false := by simp; omega
                    have HX := Lib.hid hx
                    clear hx hv hv2
                    go_wp2_with fail
                    rw [q_of _ (by omega) (by omega)]
                    go_wp2_with fail
                    go_ret2
                    exact ⟨ret_parse (by rw [HP.out, decide_eq_false HX.out]; simp; try omega) HE.out, rfl⟩
            · have HE : Hid (parseE l = 7) := Lib.hid (HFIN.out.1 (.inl (by rw [← HVW.out]; exact Held33_t HH.out)))
              have HP : Hid (parseP l = 0) := Lib.hid (if_neg (by rw [HE.out]; decide))
              go_wp2_with fail
              go_ret2
              exact ⟨ret_parse_err HP.out HE.out, rfl⟩

end Go.Proofs.YtehlgnjbmdaakaaDoor.ClkC

import Derived.Test.YthjlemglfgamnaaDoorNumQ
namespace Go.Proofs.YthjlemglfgamnaaDoor.NumC
open Go.RowKit Go.My NumMath

theorem refoctal_none (w : World) :
    Calls Tryd.prog 15 #[.string ⟨#[]⟩] w fun e w' => e = .returned (.tuple #[.int .i64 0, .int .i64 2]) ∧ w = w' := by
  go_enter Tryd.func15, Tryd.ntmps15
  go_wp2_with fail
  go_ret2
  exact ⟨rfl, rfl⟩
set_option maxRecDepth 100000 in
theorem refoctal_high (s : ByteArray) (w : World) (hp : 0 < s.size) (h1 : 128 < s[0].toNat) :
    Calls Tryd.prog 15 #[.string s] w fun e w' => e = .returned (.tuple #[.int .i64 0, .int .i64 2]) ∧ w = w' := by
  have hne := nonempty_of s hp
  have hb : ((s[0].toNat : Int) != 128) = true := by simp; omega
  have hg : decide ((s[0].toNat : Int) ≥ 128) = true := by simp; omega
  go_enter Tryd.func15, Tryd.ntmps15
  go_wp2_with fail
  go_ret2
  exact ⟨rfl, rfl⟩

theorem nat_of {n m : Nat} (h : ((n : Int) == (m : Int)) = true) : n = m := by have : (n : Int) = m := by simpa using h
                                                                               omega
theorem nat_ne_of {n m : Nat} (h : ((n : Int) == (m : Int)) = false) : n ≠ m := by have : (n : Int) ≠ m := by simpa using h
                                                                                   omega

set_option maxRecDepth 100000 in
set_option maxHeartbeats 8000000 in
theorem refoctal_oct (s : ByteArray) (w : World) (hs : s.size ≤ 1000000) (hp : 0 < s.size) (h1 : s[0].toNat < 128) :
    Calls Tryd.prog 15 #[.string s] w fun e w' => e = .returned (.tuple #[.int .i64 ((octV s.data.toList : Nat) : Int), .int .i64 ((octE s.data.toList : Nat) : Int)]) ∧ w = w' := by
  have hne := nonempty_of s hp
  have hg : decide ((s[0].toNat : Int) ≥ 128) = false := by simp; omega
  obtain ⟨l, hl⟩ : ∃ l, l = s.data.toList := ⟨_, rfl⟩
  rw [← hl]
  have hlen : l.length = s.size := by rw [hl, Lib.size_eq]
  have hget : ∀ k (h : k < s.size) (hk : k < l.length), l[k] = s[k] := fun k h hk => by
    subst hl
    exact get_list s k h
  have hres : octR l = if allIn ends (octRest l) then (rngV (V (dig 8) 8 (octDigits l)), rngE (V (dig 8) 8 (octDigits l))) else (0, 2) := by
    have hc := cons_of s hp
    rw [← hl] at hc
    by_cases h : allIn ends (octRest l) = true
    · have := octR_oct s[0] (l.drop 1) (by omega) (by rw [← hc]; exact h)
      rw [← hc] at this
      rw [this, if_pos h]
    · have := octR_form s[0] (l.drop 1) (by omega) (by rw [← hc]; exact Bool.eq_false_iff.2 h)
      rw [← hc] at this
      rw [this, if_neg h]
  have HG := Lib.hid hget
  have HL := Lib.hid hlen
  have HR := Lib.hid hres
  clear hl hlen hget h1 hres
  go_enter Tryd.func15, Tryd.ntmps15
  go_wp2_with fail
  clear hg hne
  go_loop [7] (fun i => ∃ k : Nat, k ≤ s.size ∧ i = .int .i64 k ∧ Hid (body l = body (l.drop k))) (fun i => s.size - (intOf i).toNat)
  case atStart => exact ⟨0, by omega, rfl, Lib.hid rfl⟩
  case round =>
    obtain ⟨k, hk, rfl, HB⟩ := hrel
    have h3 : (∃ h : k < s.size, ((s[k].toNat : Int) == 32) = true) ∨ (∃ h : k < s.size, ((s[k].toNat : Int) == 32) = false) ∨ ¬ k < s.size := by
      by_cases h : k < s.size
      · cases e : ((s[k].toNat : Int) == 32)
        · exact .inr (.inl ⟨h, e⟩)
        · exact .inl ⟨h, e⟩
      · exact .inr (.inr h)
    rcases h3 with ⟨hlt, hb⟩ | h3
    · have hkl : k < l.length := by rw [HL.out]; exact hlt
      have HN : Hid (body l = body (l.drop (k + 1))) := Lib.hid (by rw [HB.out]; exact body_skip l k hkl (by rw [HG.out k hlt hkl]; exact nat_of hb))
      go_wp2_with fail
      go_round
      case rel => exact ⟨k + 1, by omega, by go_num, HN⟩
      case measure => simp [intOf]; omega
    · have HK : Hid (body l = l.drop k) := Lib.hid (by
        rw [HB.out]
        refine body_stop l k fun hkl => ?_
        have hlt : k < s.size := by rw [← HL.out]; exact hkl
        rw [HG.out k hlt hkl]
        rcases h3 with ⟨_, h⟩ | h
        · exact nat_ne_of h
        · exact absurd hlt h)
      clear HB
      rcases h3 with ⟨hlt, hb⟩ | hge
      all_goals
        go_wp2_with fail
        go_loop [7, 8, 9] (fun i n o => ∃ (k : Nat) (P : List UInt8) (ov : Bool) (v : Nat), k ≤ s.size ∧ i = .int .i64 k ∧ o = .bool ov ∧ n = .int .i64 (v : Int) ∧ Hid (body l = P ++ l.drop k) ∧ Hid (allIn octs P = true) ∧ Hid (HeldV 8 P ov v)) (fun i _ _ => s.size - (intOf i).toNat)
        case atStart => exact ⟨k, [], false, 0, by omega, rfl, rfl, rfl, HK, Lib.hid rfl, Lib.hid (.inl ⟨rfl, rfl, by omega⟩)⟩
        case round =>
          clear HK
          obtain ⟨k, P, ov, v, hk, rfl, rfl, rfl, HB, HP, HV⟩ := hrel
          have h3 : (∃ h : k < s.size, decide ((s[k].toNat : Int) ≥ 48) = true ∧ decide ((s[k].toNat : Int) ≤ 55) = true) ∨ (∃ h : k < s.size, decide ((s[k].toNat : Int) ≥ 48) = false) ∨ (∃ h : k < s.size, decide ((s[k].toNat : Int) ≥ 48) = true ∧ decide ((s[k].toNat : Int) ≤ 55) = false) ∨ ¬ k < s.size := by
            by_cases h : k < s.size
            · cases e : decide ((s[k].toNat : Int) ≥ 48)
              · exact .inr (.inl ⟨h, e⟩)
              · cases e2 : decide ((s[k].toNat : Int) ≤ 55)
                · exact .inr (.inr (.inl ⟨h, e, e2⟩))
                · exact .inl ⟨h, e, e2⟩
            · exact .inr (.inr (.inr h))
          rcases h3 with ⟨hlt, hge, hle⟩ | h3
          · have hkl : k < l.length := by rw [HL.out]; exact hlt
            have hc : l[k] = s[k] := HG.out k hlt hkl
            have hge' : 48 ≤ s[k].toNat := by have := of_decide_eq_true hge; omega
            have hle' : s[k].toNat ≤ 55 := by have := of_decide_eq_true hle; omega
            have HB1 : Hid (body l = (P ++ [s[k]]) ++ l.drop (k + 1)) := Lib.hid (by
              rw [HB.out, List.drop_eq_getElem_cons hkl, hc]; simp)
            have HP1 : Hid (allIn octs (P ++ [s[k]]) = true) := Lib.hid (allIn_snoc _ _ _ HP.out ((octs_iff _).2 ⟨hge', hle'⟩))
            have HS : Hid (V (dig 8) 8 (P ++ [s[k]]) = V (dig 8) 8 P * 8 + (s[k].toNat - 48)) := Lib.hid (by rw [V_snoc, dig8 _ (by omega)])
            clear hc
            rcases HV.out with ⟨rfl, hv, hm⟩ | ⟨rfl, rfl, hm⟩
            · by_cases hb : v ≤ 576460752303423488
              · have e := i64_or3 v (s[k].toNat - 48) hb (by omega)
                rw [show ((s[k].toNat - 48 : Nat) : Int) = (s[k].toNat : Int) - 48 from by omega] at e
                have hgt : decide ((v : Int) > 576460752303423488) = false := by simp; omega
                by_cases hn : v * 8 + (s[k].toNat - 48) ≤ 4611686018427387904
                · have HN : Hid (HeldV 8 (P ++ [s[k]]) false (v * 8 + (s[k].toNat - 48))) := Lib.hid (.inl ⟨rfl, by rw [HS.out, hv], hn⟩)
                  clear hv
                  go_wp2_with fail
                  go_round
                  case rel => exact ⟨k + 1, P ++ [s[k]], false, v * 8 + (s[k].toNat - 48), by omega, by go_num, by rw [decide_eq_false (by omega)], by go_num, HB1, HP1, HN⟩
                  case measure => simp [intOf]; omega
                · have HN : Hid (HeldV 8 (P ++ [s[k]]) true 0) := Lib.hid (.inr ⟨rfl, rfl, by rw [HS.out]; omega⟩)
                  clear hv
                  go_wp2_with fail
                  go_round
                  case rel => exact ⟨k + 1, P ++ [s[k]], true, 0, by omega, by go_num, by rw [decide_eq_true (by omega)], rfl, HB1, HP1, HN⟩
                  case measure => simp [intOf]; omega
              · have hgt : decide ((v : Int) > 576460752303423488) = true := by simp; omega
                have HN : Hid (HeldV 8 (P ++ [s[k]]) true 0) := Lib.hid (.inr ⟨rfl, rfl, by rw [HS.out]; omega⟩)
                clear hv
                go_wp2_with fail
                go_round
                case rel => exact ⟨k + 1, P ++ [s[k]], true, 0, by omega, by go_num, rfl, rfl, HB1, HP1, HN⟩
                case measure => simp [intOf]; omega
            · have HN : Hid (HeldV 8 (P ++ [s[k]]) true 0) := Lib.hid (.inr ⟨rfl, rfl, by rw [HS.out]; omega⟩)
              go_wp2_with fail
              go_round
              case rel => exact ⟨k + 1, P ++ [s[k]], true, 0, by omega, by go_num, rfl, rfl, HB1, HP1, HN⟩
              case measure => simp [intOf]; omega
          · have hsp := oct_split l P k HB.out HP.out (fun hkl => by
              have hlt : k < s.size := by rw [← HL.out]; exact hkl
              rw [HG.out k hlt hkl]
              rcases h3 with ⟨_, h⟩ | ⟨_, _, h⟩ | h
              · have := of_decide_eq_false h; omega
              · have := of_decide_eq_false h; omega
              · exact absurd hlt h)
            have HD := Lib.hid hsp.1
            have HE : Hid (allIn ends (octRest l) = allIn ends (l.drop k)) := Lib.hid (by rw [hsp.2])
            clear hsp HB HP
            rcases h3 with ⟨hlt, hge⟩ | ⟨hlt, hge, hle⟩ | hge
            all_goals
              go_wp2_with fail
              go_loop [7] (fun i => ∃ k : Nat, k ≤ s.size ∧ i = .int .i64 k ∧ Hid (allIn ends (octRest l) = allIn ends (l.drop k))) (fun i => s.size - (intOf i).toNat)
              case atStart => exact ⟨k, by omega, rfl, HE⟩
              case round =>
                clear HE
                obtain ⟨k, hk, rfl, HE⟩ := hrel
                have h4 : (∃ h : k < s.size, ((s[k].toNat : Int) != 32) = false) ∨ (∃ h : k < s.size, ((s[k].toNat : Int) != 32) = true ∧ ((s[k].toNat : Int) != 0) = false) ∨ (∃ h : k < s.size, ((s[k].toNat : Int) != 32) = true ∧ ((s[k].toNat : Int) != 0) = true) ∨ ¬ k < s.size := by
                  by_cases h : k < s.size
                  · cases e : ((s[k].toNat : Int) != 32)
                    · exact .inl ⟨h, e⟩
                    · cases e2 : ((s[k].toNat : Int) != 0)
                      · exact .inr (.inl ⟨h, e, e2⟩)
                      · exact .inr (.inr (.inl ⟨h, e, e2⟩))
                  · exact .inr (.inr (.inr h))
                rcases h4 with ⟨hlt2, ha⟩ | ⟨hlt2, ha, hb⟩ | ⟨hlt2, ha, hb⟩ | hge2
                · have hkl : k < l.length := by rw [HL.out]; exact hlt2
                  have HN : Hid (allIn ends (octRest l) = allIn ends (l.drop (k + 1))) := Lib.hid (by
                    rw [HE.out]; exact ends_skip l k hkl (by rw [HG.out k hlt2 hkl]; left; have : (s[k].toNat : Int) = 32 := by simpa using ha
                                                             omega))
                  go_wp2_with fail
                  go_round
                  case rel => exact ⟨k + 1, by omega, by go_num, HN⟩
                  case measure => simp [intOf]; omega
                · have hkl : k < l.length := by rw [HL.out]; exact hlt2
                  have HN : Hid (allIn ends (octRest l) = allIn ends (l.drop (k + 1))) := Lib.hid (by
                    rw [HE.out]; exact ends_skip l k hkl (by rw [HG.out k hlt2 hkl]; right; have : (s[k].toNat : Int) = 0 := by simpa using hb
                                                             omega))
                  go_wp2_with fail
                  go_round
                  case rel => exact ⟨k + 1, by omega, by go_num, HN⟩
                  case measure => simp [intOf]; omega
                · have hkl : k < l.length := by rw [HL.out]; exact hlt2
                  have HF : Hid (allIn ends (octRest l) = false) := Lib.hid (by
                    rw [HE.out]; refine ends_bad l k hkl ?_
                    rw [HG.out k hlt2 hkl]
                    have h1 : (s[k].toNat : Int) ≠ 32 := by simpa using ha
                    have h2 : (s[k].toNat : Int) ≠ 0 := by simpa using hb
                    omega)
                  have hv1 : octV l = 0 := by unfold octV; rw [HR.out, HF.out]; rfl
                  have hv2 : octE l = 2 := by unfold octE; rw [HR.out, HF.out]; rfl
                  have HV1 := Lib.hid hv1
                  have HV2 := Lib.hid hv2
                  clear hv1 hv2
                  go_wp2_with fail
                  go_ret2
                  exact ⟨ret_pair (by rw [HV1.out]; rfl) (by rw [HV2.out]; rfl), rfl⟩
                · have HF : Hid (allIn ends (octRest l) = true) := Lib.hid (by
                    rw [HE.out, List.drop_eq_nil_of_le (by rw [HL.out]; omega)]; rfl)
                  have hr : octR l = (rngV (V (dig 8) 8 P), rngE (V (dig 8) 8 P)) := by rw [HR.out, HF.out, HD.out]; rfl
                  rcases HV.out with ⟨rfl, hv, hm⟩ | ⟨rfl, rfl, hm⟩
                  · have HV1 : Hid (octV l = v) := Lib.hid (by unfold octV; rw [hr, hv]; exact if_pos (by rw [← hv]; exact hm))
                    have HV2 : Hid (octE l = 0) := Lib.hid (by unfold octE; rw [hr]; exact if_pos (by rw [← hv]; exact hm))
                    clear hr hv
                    go_wp2_with fail
                    go_ret2
                    exact ⟨ret_pair (by rw [HV1.out]) (by rw [HV2.out]; rfl), rfl⟩
                  · have HV1 : Hid (octV l = 0) := Lib.hid (by unfold octV; rw [hr]; exact if_neg (by omega))
                    have HV2 : Hid (octE l = 7) := Lib.hid (by unfold octE; rw [hr]; exact if_neg (by omega))
                    clear hr
                    go_wp2_with fail
                    go_ret2
                    exact ⟨ret_pair (by rw [HV1.out]; rfl) (by rw [HV2.out]; rfl), rfl⟩

theorem refoctal_any (s : ByteArray) (w : World) (hs : s.size ≤ 1000000) :
    Calls Tryd.prog 15 #[.string s] w fun e w' => e = .returned (.tuple #[.int .i64 ((octV s.data.toList : Nat) : Int), .int .i64 ((octE s.data.toList : Nat) : Int)]) ∧ w = w' := by
  by_cases h0 : s.size = 0
  · obtain rfl := empty_of s h0
    exact refoctal_none w
  have hp : 0 < s.size := by omega
  by_cases h1 : s[0].toNat < 128
  · exact refoctal_oct s w hs hp h1
  have hc := cons_of s hp
  by_cases h2 : s[0].toNat = 128
  · have hr := octR_256 s[0] (s.data.toList.drop 1) h2
    rw [← hc] at hr
    have h := refoctal_256 s w hs hp h2
    unfold octV octE
    rw [hr]
    exact h
  · have hr := octR_high s[0] (s.data.toList.drop 1) (by omega)
    rw [← hc] at hr
    have h := refoctal_high s w hp (by omega)
    unfold octV octE
    rw [hr]
    exact h
end Go.Proofs.YthjlemglfgamnaaDoor.NumC

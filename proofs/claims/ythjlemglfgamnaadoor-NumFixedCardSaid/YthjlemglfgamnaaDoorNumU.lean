import Derived.Test.YthjlemglfgamnaaDoorNumQ
namespace Go.Proofs.YthjlemglfgamnaaDoor.NumC
open Go.RowKit Go.My NumMath

theorem refdigit_yes (c : UInt8) (w : World) (h : hexs.contains c = true) :
    Calls Tryd.prog 35 #[.int .u8 (c.toNat : Int)] w fun e w' => e = .returned (.int .i64 ((dig 16 c : Nat) : Int)) ∧ w = w' := by
  have hc := c.toNat_lt
  rcases (hexs_iff c).1 h with ⟨h1, h2⟩ | ⟨h1, h2⟩ | ⟨h1, h2⟩
  · clear h
    go_enter Tryd.func35, Tryd.ntmps35
    go_wp2
    go_ret
    exact ⟨ret_int (by unfold dig; rw [if_neg (by decide), if_pos h2]; omega), rfl⟩
  · clear h
    have d1 : decide ((c.toNat : Int) ≥ 48) = true := by simp; omega
    have d2 : decide ((c.toNat : Int) ≤ 57) = false := by simp; omega
    go_enter Tryd.func35, Tryd.ntmps35
    go_wp2
    go_ret
    exact ⟨ret_int (by unfold dig; rw [if_neg (by decide), if_neg (by omega), if_neg (by omega)]; omega), rfl⟩
  · clear h
    have d1 : decide ((c.toNat : Int) ≥ 48) = true := by simp; omega
    have d2 : decide ((c.toNat : Int) ≤ 57) = false := by simp; omega
    have d3 : decide ((c.toNat : Int) ≥ 97) = false := by simp; omega
    go_enter Tryd.func35, Tryd.ntmps35
    go_wp2
    go_ret
    exact ⟨ret_int (by unfold dig; rw [if_neg (by decide), if_neg (by omega), if_pos (by omega)]; omega), rfl⟩
theorem refdigit_no (c : UInt8) (w : World) (h : hexs.contains c = false) :
    Calls Tryd.prog 35 #[.int .u8 (c.toNat : Int)] w fun e w' => e = .returned (.int .i64 (-1)) ∧ w = w' := by
  have hn : ¬ ((48 ≤ c.toNat ∧ c.toNat ≤ 57) ∨ (97 ≤ c.toNat ∧ c.toNat ≤ 102) ∨ (65 ≤ c.toNat ∧ c.toNat ≤ 70)) := fun e => by
    rw [(hexs_iff c).2 e] at h; cases h
  clear h
  by_cases h1 : c.toNat < 48
  · have d1 : decide ((c.toNat : Int) ≥ 48) = false := by simp; omega
    have d3 : decide ((c.toNat : Int) ≥ 97) = false := by simp; omega
    have d5 : decide ((c.toNat : Int) ≥ 65) = false := by simp; omega
    clear hn
    go_enter Tryd.func35, Tryd.ntmps35
    go_wp2
    go_ret
    exact ⟨rfl, rfl⟩
  have d1 : decide ((c.toNat : Int) ≥ 48) = true := by simp; omega
  have d2 : decide ((c.toNat : Int) ≤ 57) = false := by simp; omega
  by_cases h2 : c.toNat < 97
  · have d3 : decide ((c.toNat : Int) ≥ 97) = false := by simp; omega
    by_cases h3 : c.toNat < 65
    · have d5 : decide ((c.toNat : Int) ≥ 65) = false := by simp; omega
      clear hn
      go_enter Tryd.func35, Tryd.ntmps35
      go_wp2
      go_ret
      exact ⟨rfl, rfl⟩
    · have d5 : decide ((c.toNat : Int) ≥ 65) = true := by simp; omega
      have d6 : decide ((c.toNat : Int) ≤ 70) = false := by simp; omega
      clear hn
      go_enter Tryd.func35, Tryd.ntmps35
      go_wp2
      go_ret
      exact ⟨rfl, rfl⟩
  · have d3 : decide ((c.toNat : Int) ≥ 97) = true := by simp; omega
    have d4 : decide ((c.toNat : Int) ≤ 102) = false := by simp; omega
    have d5 : decide ((c.toNat : Int) ≥ 65) = true := by simp; omega
    have d6 : decide ((c.toNat : Int) ≤ 70) = false := by simp; omega
    clear hn
    go_enter Tryd.func35, Tryd.ntmps35
    go_wp2
    go_ret
    exact ⟨rfl, rfl⟩

set_option maxRecDepth 100000 in
set_option maxHeartbeats 4000000 in
theorem refhex_any (s : ByteArray) (w : World) :
    Calls Tryd.prog 19 #[.string s] w fun e w' => e = .returned (.tuple #[.int .i64 ((hexV s.data.toList : Nat) : Int), .int .i64 ((hexE s.data.toList : Nat) : Int)]) ∧ w = w' := by
  obtain ⟨l, hl⟩ : ∃ l, l = s.data.toList := ⟨_, rfl⟩
  rw [← hl]
  have hlen : l.length = s.size := by rw [hl, Lib.size_eq]
  have hget : ∀ k (h : k < s.size) (hk : k < l.length), l[k] = s[k] := fun k h hk => by
    subst hl
    exact get_list s k h
  by_cases h8 : s.size = 8
  · have hb : ((s.size : Int) != 8) = false := by simp [h8]
    have HG := Lib.hid hget
    have HL := Lib.hid hlen
    have H8 := Lib.hid h8
    have h8a : 8 ≤ s.size := by omega
    clear hl hlen hget h8
    go_enter Tryd.func19, Tryd.ntmps19
    go_wp2_with fail
    clear hb
    go_loop [4, 5] (fun n i => ∃ k : Nat, k ≤ 8 ∧ i = .int .i64 k ∧ n = .int .i64 ((V (dig 16) 16 (l.take k) : Nat) : Int) ∧ Hid (allIn hexs (l.take k) = true)) (fun _ i => 8 - (intOf i).toNat)
    case atStart => exact ⟨0, by omega, rfl, rfl, Lib.hid (by simp [allIn])⟩
    case round =>
      obtain ⟨k, hk, rfl, rfl, HA⟩ := hrel
      have hbd : V (dig 16) 16 (l.take k) < 16 ^ (l.take k).length := V_lt _ _ _ fun c hc => hex_dig_lt (allIn_ok HA.out c hc)
      have hbd2 : V (dig 16) 16 (l.take k) < 4294967296 := by
        have : 16 ^ (l.take k).length ≤ 16 ^ 8 := Nat.pow_le_pow_right (by omega) (by rw [List.length_take]; omega)
        omega
      clear hbd
      by_cases hlt : k < 8
      · have hks : k < s.size := by omega
        have hkl : k < l.length := by rw [HL.out]; exact hks
        have hc : l[k] = s[k] := HG.out k hks hkl
        cases hx : hexs.contains s[k]
        · have HV1 : Hid (hexR l = (0, 2)) := Lib.hid (if_neg fun ⟨_, h⟩ => by
            have := allIn_ok h l[k] (List.getElem_mem hkl)
            rw [hc, hx] at this; cases this)
          have HX := Lib.hid hx
          clear hx hc
          go_wp2_with fail
          refine (refdigit_no s[k] w HX.out).mono ?_
          rintro e w' ⟨rfl, rfl⟩
          go_wp2_with fail
          go_ret2
          exact ⟨ret_pair (by unfold hexV; rw [HV1.out]; rfl) (by unfold hexE; rw [HV1.out]; rfl), rfl⟩
        · have hd := hex_dig_lt hx
          have HS : Hid (V (dig 16) 16 (l.take (k + 1)) = V (dig 16) 16 (l.take k) * 16 + dig 16 s[k]) := Lib.hid (by rw [V_take_succ _ _ _ _ hkl, hc])
          have HA1 : Hid (allIn hexs (l.take (k + 1)) = true) := Lib.hid (by
            rw [List.take_succ_eq_append_getElem hkl, hc]; exact allIn_snoc _ _ _ HA.out hx)
          have HX := Lib.hid hx
          clear hx hc
          go_wp2_with fail
          refine (refdigit_yes s[k] w HX.out).mono ?_
          rintro e w' ⟨rfl, rfl⟩
          go_wp2_with fail
          go_round
          case rel => exact ⟨k + 1, by omega, by go_num, by rw [HS.out]; go_num, HA1⟩
          case measure => simp [intOf]; omega
      · obtain rfl : k = 8 := by omega
        have e1 : l.take 8 = l := List.take_of_length_le (by rw [HL.out, H8.out]; omega)
        rw [e1] at HA ⊢
        have HV1 : Hid (hexR l = (V (dig 16) 16 l, 0)) := Lib.hid (if_pos ⟨by rw [HL.out, H8.out], HA.out⟩)
        clear e1
        go_wp2_with fail
        go_ret2
        exact ⟨ret_pair (by unfold hexV; rw [HV1.out]) (by unfold hexE; rw [HV1.out]; rfl), rfl⟩
  · have hb : ((s.size : Int) != 8) = true := by simp; omega
    have hv : hexR l = (0, 2) := if_neg fun ⟨h1, _⟩ => h8 (by rw [← hlen]; exact h1)
    have HV1 := Lib.hid hv
    clear hv hl hlen hget
    go_enter Tryd.func19, Tryd.ntmps19
    go_wp2_with fail
    go_ret2
    exact ⟨ret_pair (by unfold hexV; rw [HV1.out]; rfl) (by unfold hexE; rw [HV1.out]; rfl), rfl⟩

def HeldD (P : List UInt8) (ov : Bool) (n : Nat) : Prop := (ov = false ∧ n = V (dig 10) 10 P ∧ n ≤ 4611686018427387904) ∨ (ov = true ∧ n ≤ 4611686018427387913 ∧ 4611686018427387904 < V (dig 10) 10 P)
theorem dig10 (c : UInt8) (h : c.toNat ≤ 57) : dig 10 c = c.toNat - 48 := by
  unfold dig; rw [if_neg (by decide), if_pos h]

set_option maxRecDepth 100000 in
set_option maxHeartbeats 4000000 in
theorem refdecimal_any (s : ByteArray) (w : World) (hs : s.size ≤ 1000000) :
    Calls Tryd.prog 23 #[.string s] w fun e w' => e = .returned (.tuple #[.int .i64 ((decV s.data.toList : Nat) : Int), .int .i64 ((decE s.data.toList : Nat) : Int)]) ∧ w = w' := by
  by_cases h0 : s.size = 0
  · obtain rfl := empty_of s h0
    go_enter Tryd.func23, Tryd.ntmps23
    go_wp2_with fail
    go_ret2
    exact ⟨rfl, rfl⟩
  have hne := nonempty_of s (by omega)
  obtain ⟨l, hl⟩ : ∃ l, l = s.data.toList := ⟨_, rfl⟩
  rw [← hl]
  have hlen : l.length = s.size := by rw [hl, Lib.size_eq]
  have hget : ∀ k (h : k < s.size) (hk : k < l.length), l[k] = s[k] := fun k h hk => by
    subst hl
    exact get_list s k h
  have hn : l ≠ [] := fun e => h0 (by rw [← hlen, e]; rfl)
  have HG := Lib.hid hget
  have HL := Lib.hid hlen
  have HN0 := Lib.hid hn
  clear hl hlen hget hn h0
  go_enter Tryd.func23, Tryd.ntmps23
  go_wp2_with fail
  clear hne
  go_loop [4, 5, 6] (fun n o i => ∃ (k : Nat) (ov : Bool) (v : Nat), k ≤ s.size ∧ i = .int .i64 k ∧ o = .bool ov ∧ n = .int .i64 (v : Int) ∧ Hid (HeldD (l.take k) ov v) ∧ Hid (allIn decs (l.take k) = true)) (fun _ _ i => s.size - (intOf i).toNat)
  case atStart => exact ⟨0, false, 0, by omega, rfl, rfl, rfl, Lib.hid (.inl ⟨rfl, by simp [V], by omega⟩), Lib.hid (by simp [allIn])⟩
  case round =>
    obtain ⟨k, ov, v, hk, rfl, rfl, rfl, HH, HA⟩ := hrel
    by_cases hlt : k < s.size
    · have hkl : k < l.length := by rw [HL.out]; exact hlt
      have hc : l[k] = s[k] := HG.out k hlt hkl
      by_cases hx : 48 ≤ s[k].toNat ∧ s[k].toNat ≤ 57
      · obtain ⟨hx1, hx2⟩ := hx
        have d1 : decide ((s[k].toNat : Int) < 48) = false := by simp; omega
        have d2 : decide ((s[k].toNat : Int) > 57) = false := by simp; omega
        have HS : Hid (V (dig 10) 10 (l.take (k + 1)) = V (dig 10) 10 (l.take k) * 10 + (s[k].toNat - 48)) := Lib.hid (by rw [V_take_succ _ _ _ _ hkl, hc, dig10 _ hx2])
        have HA1 : Hid (allIn decs (l.take (k + 1)) = true) := Lib.hid (by
          rw [List.take_succ_eq_append_getElem hkl, hc]; exact allIn_snoc _ _ _ HA.out ((decs_iff _).2 ⟨hx1, hx2⟩))
        clear hc
        rcases HH.out with ⟨rfl, hv, hm⟩ | ⟨rfl, hm, hv⟩
        · by_cases hb : v ≤ 461168601842738790
          · have hgt : decide ((v : Int) > 461168601842738790) = false := by simp; omega
            by_cases hn : v * 10 + (s[k].toNat - 48) ≤ 4611686018427387904
            · have HN : Hid (HeldD (l.take (k + 1)) false (v * 10 + (s[k].toNat - 48))) := Lib.hid (.inl ⟨rfl, by rw [HS.out, hv], hn⟩)
              clear hv
              go_wp2_with fail
              go_round
              case rel => exact ⟨k + 1, false, v * 10 + (s[k].toNat - 48), by omega, by go_num, by rw [decide_eq_false (by omega)], by go_num, HN, HA1⟩
              case measure => simp [intOf]; omega
            · have HN : Hid (HeldD (l.take (k + 1)) true (v * 10 + (s[k].toNat - 48))) := Lib.hid (.inr ⟨rfl, by omega, by rw [HS.out]; omega⟩)
              clear hv
              go_wp2_with fail
              go_round
              case rel => exact ⟨k + 1, true, v * 10 + (s[k].toNat - 48), by omega, by go_num, by rw [decide_eq_true (by omega)], by go_num, HN, HA1⟩
              case measure => simp [intOf]; omega
          · have hgt : decide ((v : Int) > 461168601842738790) = true := by simp; omega
            have HN : Hid (HeldD (l.take (k + 1)) true v) := Lib.hid (.inr ⟨rfl, by omega, by rw [HS.out]; omega⟩)
            clear hv
            go_wp2_with fail
            go_round
            case rel => exact ⟨k + 1, true, v, by omega, by go_num, rfl, rfl, HN, HA1⟩
            case measure => simp [intOf]; omega
        · have HN : Hid (HeldD (l.take (k + 1)) true v) := Lib.hid (.inr ⟨rfl, by omega, by rw [HS.out]; omega⟩)
          clear hv
          go_wp2_with fail
          go_round
          case rel => exact ⟨k + 1, true, v, by omega, by go_num, rfl, rfl, HN, HA1⟩
          case measure => simp [intOf]; omega
      · have HV1 : Hid (decR l = (0, 2)) := Lib.hid (if_neg fun ⟨_, h⟩ => by
          have := (decs_iff _).1 (allIn_ok h l[k] (List.getElem_mem hkl))
          rw [hc] at this
          exact hx this)
        clear hc
        by_cases h48 : s[k].toNat < 48
        · go_wp2_with fail
          go_ret2
          exact ⟨ret_pair (by unfold decV; rw [HV1.out]; rfl) (by unfold decE; rw [HV1.out]; rfl), rfl⟩
        · have d1 : decide ((s[k].toNat : Int) < 48) = false := by simp; omega
          have d2 : decide ((s[k].toNat : Int) > 57) = true := by simp; omega
          clear hx
          go_wp2_with fail
          go_ret2
          exact ⟨ret_pair (by unfold decV; rw [HV1.out]; rfl) (by unfold decE; rw [HV1.out]; rfl), rfl⟩
    · obtain rfl : k = s.size := by omega
      have e1 : l.take s.size = l := List.take_of_length_le (by rw [HL.out]; omega)
      rw [e1] at HH HA
      have HR : Hid (decR l = (rngV (V (dig 10) 10 l), rngE (V (dig 10) 10 l))) := Lib.hid (if_pos ⟨HN0.out, HA.out⟩)
      clear e1
      rcases HH.out with ⟨rfl, hv, hm⟩ | ⟨rfl, hm, hv⟩
      · have HV1 : Hid (decV l = v) := Lib.hid (by unfold decV; rw [HR.out, hv]; exact if_pos (by rw [← hv]; exact hm))
        have HV2 : Hid (decE l = 0) := Lib.hid (by unfold decE; rw [HR.out]; exact if_pos (by rw [← hv]; exact hm))
        clear hv
        go_wp2_with fail
        go_ret2
        exact ⟨ret_pair (by rw [HV1.out]) (by rw [HV2.out]; rfl), rfl⟩
      · have HV1 : Hid (decV l = 0) := Lib.hid (by unfold decV; rw [HR.out]; exact if_neg (by omega))
        have HV2 : Hid (decE l = 7) := Lib.hid (by unfold decE; rw [HR.out]; exact if_neg (by omega))
        clear hv
        go_wp2_with fail
        go_ret2
        exact ⟨ret_pair (by rw [HV1.out]; rfl) (by rw [HV2.out]; rfl), rfl⟩
end Go.Proofs.YthjlemglfgamnaaDoor.NumC

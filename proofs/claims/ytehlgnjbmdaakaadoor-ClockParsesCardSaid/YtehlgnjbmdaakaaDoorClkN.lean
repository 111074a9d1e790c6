import Derived.Test.YtehlgnjbmdaakaaDoorRows
import Derived.Test.YtehlgnjbmdaakaaDoorLib
import Derived.Test.YtehlgnjbmdaakaaDoorNumS
import Derived.Test.YtehlgnjbmdaakaaDoorClkShelf
import Derived.WalkSpells
import Derived.Lib.IndexBytes
namespace Go.Proofs.YtehlgnjbmdaakaaDoor.NumC
open Go.RowKit Go.My NumMath Go.Shelf

theorem ret_pair {a b c d : Int} (h1 : a = c) (h2 : b = d) : Ending.returned (.tuple #[.int .i64 a, .int .i64 b]) = .returned (.tuple #[.int .i64 c, .int .i64 d]) := by rw [h1, h2]

theorem size_list (s : ByteArray) : s.size = s.data.toList.length := Lib.size_eq s
theorem get_list (s : ByteArray) (k : Nat) (h : k < s.size) : s.data.toList[k]'(by rw [← size_list]; exact h) = s[k] := by simp [ByteArray.getElem_eq_getElem_data]

theorem digit_any (b : Nat) (c : UInt8) (w : World) (h : okDig b c) :
    Calls Tryd.prog 70 #[.int .u8 (c.toNat : Int), .int .i64 (b : Int)] w fun e w' => e = .returned (.int .i64 ((dig b c : Nat) : Int)) ∧ w = w' := by
  have hc := c.toNat_lt
  unfold okDig at h
  by_cases hb : b = 256
  · subst hb
    go_enter Tryd.func70, Tryd.ntmps70
    go_wp2
    go_ret
    exact ⟨ret_int (by unfold dig; simp), rfl⟩
  have hb' : ((b : Int) == 256) = false := by simp; omega
  obtain ⟨h0, h⟩ : 48 ≤ c.toNat ∧ (c.toNat ≤ 57 ∨ (65 ≤ c.toNat ∧ c.toNat ≤ 70) ∨ 97 ≤ c.toNat) := h.resolve_left hb
  by_cases h1 : c.toNat ≤ 57
  · clear h
    go_enter Tryd.func70, Tryd.ntmps70
    go_wp2
    go_ret
    exact ⟨ret_int (by unfold dig; rw [if_neg hb, if_pos h1]; omega), rfl⟩
  by_cases h2 : c.toNat ≤ 70
  · have h3 : 65 ≤ c.toNat := by omega
    clear h
    go_enter Tryd.func70, Tryd.ntmps70
    go_wp2
    go_ret
    exact ⟨ret_int (by unfold dig; rw [if_neg hb, if_neg h1, if_pos h2]; omega), rfl⟩
  have h3 : 97 ≤ c.toNat := by omega
  clear h
  go_enter Tryd.func70, Tryd.ntmps70
  go_wp2
  go_ret
  exact ⟨ret_int (by unfold dig; rw [if_neg hb, if_neg h1, if_neg h2]; omega), rfl⟩

set_option maxRecDepth 100000 in
set_option maxHeartbeats 1000000 in
theorem value_any (b : Nat) (s : ByteArray) (w : World) (hb1 : 2 ≤ b) (hb2 : b ≤ 256) (hs : s.size ≤ 9223372036854775807) (hd : ∀ c ∈ s.data.toList, okDig b c) :
    Calls Tryd.prog 51 #[.string s, .int .i64 (b : Int)] w fun e w' => e = .returned (.tuple #[.int .i64 ((rngV (V (dig b) b s.data.toList) : Nat) : Int), .int .i64 ((rngE (V (dig b) b s.data.toList) : Nat) : Int)]) ∧ w = w' := by
  have HD := Lib.hid hd
  clear hd
  have hq0 : 0 ≤ (4611686018427387904 : Int) / (b : Int) := Int.ediv_nonneg (by omega) (by omega)
  have hq1 : (4611686018427387904 : Int) / (b : Int) ≤ 4611686018427387904 := Int.ediv_le_self _ (by omega)
  go_enter Tryd.func51, Tryd.ntmps51
  go_wp2_with fail
  go_loop [6, 10] (fun v i => ∃ k : Nat, k ≤ s.size ∧ i = .int .i64 k ∧ v = .int .i64 ((V (dig b) b (s.data.toList.take k) : Nat) : Int) ∧ V (dig b) b (s.data.toList.take k) ≤ 4611686018427388159) (fun _ i => s.size - (intOf i).toNat)
  case atStart => exact ⟨0, by omega, rfl, rfl, by simp [V]⟩
  case round =>
    obtain ⟨k, hk, rfl, rfl, hv⟩ := hrel
    by_cases hlt : k < s.size
    · have hkl : k < s.data.toList.length := by rw [← size_list]; exact hlt
      by_cases ho : (4611686018427387904 : Int) / (b : Int) < ((V (dig b) b (s.data.toList.take k) : Nat) : Int)
      · go_wp2_with fail
        go_ret2
        have h1 : 4611686018427387904 < V (dig b) b (s.data.toList.take k) * b := by
          have e : (4611686018427387904 / b : Nat) < V (dig b) b (s.data.toList.take k) := by
            have : ((4611686018427387904 / b : Nat) : Int) = (4611686018427387904 : Int) / (b : Int) := by simp
            omega
          exact (Nat.div_lt_iff_lt_mul (by omega)).1 e
        have h2 := V_over (dig b) b (by omega) s.data.toList k hkl _ h1
        exact ⟨ret_pair (by rw [show rngV (V (dig b) b s.data.toList) = 0 from if_neg (by omega)]; rfl) (by rw [show rngE (V (dig b) b s.data.toList) = 7 from if_neg (by omega)]; rfl), rfl⟩
      · have h1 : V (dig b) b (s.data.toList.take k) * b ≤ 4611686018427387904 := by
          have e : V (dig b) b (s.data.toList.take k) ≤ 4611686018427387904 / b := by
            have : ((4611686018427387904 / b : Nat) : Int) = (4611686018427387904 : Int) / (b : Int) := by simp
            omega
          exact (Nat.le_div_iff_mul_le (by omega)).1 e
        have h1' : ((V (dig b) b (s.data.toList.take k) : Nat) : Int) * (b : Int) ≤ 4611686018427387904 := by rw [← Int.natCast_mul]; omega
        have h0' : 0 ≤ ((V (dig b) b (s.data.toList.take k) : Nat) : Int) * (b : Int) := Int.mul_nonneg (by omega) (by omega)
        have hdl := dig_le b s.data.toList[k]
        have HS := Lib.hid (V_take_succ (dig b) b s.data.toList k hkl)
        have hok := HD.out s.data.toList[k] (List.getElem_mem hkl)
        rw [get_list s k hlt] at hdl hok
        have HOK := Lib.hid hok
        have HG := Lib.hid (get_list s k hlt)
        clear hok
        go_wp2_with fail
        refine (digit_any b s[k] w HOK.out).mono ?_
        rintro e w' ⟨rfl, rfl⟩
        go_wp2_with fail
        go_round
        case rel => exact ⟨k + 1, by omega, by go_num, by rw [HS.out, HG.out]; simp, by rw [HS.out, HG.out]; omega⟩
        case measure => simp [intOf]; omega
    · obtain rfl : k = s.size := by omega
      have e1 : s.data.toList.take s.size = s.data.toList := List.take_of_length_le (by rw [size_list]; omega)
      rw [e1] at hv ⊢
      clear e1
      by_cases hm : V (dig b) b s.data.toList ≤ 4611686018427387904
      · go_wp2_with fail
        go_ret2
        exact ⟨ret_pair (by rw [show rngV (V (dig b) b s.data.toList) = _ from if_pos hm]) (by rw [show rngE (V (dig b) b s.data.toList) = 0 from if_pos hm]; rfl), rfl⟩
      · go_wp2_with fail
        go_ret2
        exact ⟨ret_pair (by rw [show rngV (V (dig b) b s.data.toList) = 0 from if_neg hm]; rfl) (by rw [show rngE (V (dig b) b s.data.toList) = 7 from if_neg hm]; rfl), rfl⟩

theorem trim_any (s cs : ByteArray) (w : World) (hs : s.size ≤ 9223372036854775807) (hcs : cs.size < 4294967281) (ha : cs.data.toList.all (fun b => decide (b.toNat < 128)) = true) :
    Calls Tryd.prog 69 #[.string s, .string cs] w fun e w' => e = .returned (.string ⟨(Lib.trimS s.data.toList cs.data.toList).toArray⟩) ∧ Below w.heap.size w w' :=
  Any.strings_Trim_laid Tryd.lays160 (by kernel_rfl) s cs w hs hcs (ascii_of_all ha)
theorem only_yes (s cs : ByteArray) (w : World) (hs : s.size ≤ 9223372036854775807) (hcs : cs.size < 4294967281) (ha : cs.data.toList.all (fun b => decide (b.toNat < 128)) = true) (h : allIn cs.data.toList s.data.toList = true) :
    Calls Tryd.prog 50 #[.string s, .string cs] w fun e w' => e = .returned (.bool true) ∧ Below w.heap.size w w' := by
  have c := trim_any s cs w hs hcs ha
  rw [(trimS_nil _ _).2 h] at c
  clear h ha
  go_enter Tryd.func50, Tryd.ntmps50
  go_wp2_with fail
  refine c.mono ?_
  rintro e w1 ⟨rfl, hb⟩
  go_wp2_with fail
  go_ret
  exact ⟨rfl, hb⟩
theorem only_no (s cs : ByteArray) (w : World) (hs : s.size ≤ 9223372036854775807) (hcs : cs.size < 4294967281) (ha : cs.data.toList.all (fun b => decide (b.toNat < 128)) = true) (h : allIn cs.data.toList s.data.toList = false) :
    Calls Tryd.prog 50 #[.string s, .string cs] w fun e w' => e = .returned (.bool false) ∧ Below w.heap.size w w' := by
  have c := trim_any s cs w hs hcs ha
  have hne : Lib.trimS s.data.toList cs.data.toList ≠ [] := fun e => by
    rw [(trimS_nil _ _).1 e] at h; cases h
  clear h ha
  generalize Lib.trimS s.data.toList cs.data.toList = m at *
  have hr : (⟨m.toArray⟩ : ByteArray).toList.isEmpty = false := by
    rw [Lib.toList_data]
    cases m with
    | nil => exact absurd rfl hne
    | cons _ _ => rfl
  clear hne
  generalize (⟨m.toArray⟩ : ByteArray) = r at *
  go_enter Tryd.func50, Tryd.ntmps50
  go_wp2_with fail
  refine c.mono ?_
  rintro e w1 ⟨rfl, hb⟩
  clear c
  go_wp2_with fail
  go_ret
  exact ⟨rfl, hb⟩

theorem empty_of (s : ByteArray) (h : s.size = 0) : s = ⟨#[]⟩ := by
  cases s with
  | mk d => simp [ByteArray.size] at h; subst h; rfl
theorem nonempty_of (s : ByteArray) (h : 0 < s.size) : s.toList.isEmpty = false := by
  rw [Lib.toList_data]
  cases e : s.data.toList with
  | nil => have := Lib.size_eq s; rw [e, List.length_nil] at this; omega
  | cons _ _ => rfl
set_option maxRecDepth 100000 in
set_option maxHeartbeats 1000000 in
theorem decimal_any (s : ByteArray) (w : World) (hs : s.size ≤ 1000000) :
    Calls Tryd.prog 39 #[.string s] w fun e w' => e = .returned (.tuple #[.int .i64 ((decV s.data.toList : Nat) : Int), .int .i64 ((decE s.data.toList : Nat) : Int)]) ∧ Below w.heap.size w w' := by
  by_cases h0 : s.size = 0
  · obtain rfl := empty_of s h0
    go_enter Tryd.func39, Tryd.ntmps39
    go_wp2_with fail
    go_ret2
    exact ⟨rfl, Below.refl _ _⟩
  have hne := nonempty_of s (by omega)
  have hn : s.data.toList ≠ [] := fun e => h0 (by rw [Lib.size_eq, e]; rfl)
  by_cases h : allIn decs s.data.toList = true
  · have c3 := fun w => only_yes s ⟨#[48, 49, 50, 51, 52, 53, 54, 55, 56, 57]⟩ w (by omega) (by decide) (by decide) h
    have c4 := fun w => value_any 10 s w (by omega) (by omega) (by omega) (decs_ok h)
    have hv : decR s.data.toList = (rngV (V (dig 10) 10 s.data.toList), rngE (V (dig 10) 10 s.data.toList)) := if_pos ⟨hn, h⟩
    have hv1 : decV s.data.toList = rngV (V (dig 10) 10 s.data.toList) := by unfold decV; rw [hv]
    have hv2 : decE s.data.toList = rngE (V (dig 10) 10 s.data.toList) := by unfold decE; rw [hv]
    rw [← hv1, ← hv2] at c4
    clear hv hv1 hv2 h hn h0
    go_enter Tryd.func39, Tryd.ntmps39
    go_wp2_with fail
    refine (c3 w).mono ?_
    rintro e w1 ⟨rfl, b1⟩
    go_wp2_with fail
    refine (c4 w1).mono ?_
    rintro e w2 ⟨rfl, rfl⟩
    go_wp2_with fail
    go_ret2
    exact ⟨rfl, b1⟩
  · have c3 := fun w => only_no s ⟨#[48, 49, 50, 51, 52, 53, 54, 55, 56, 57]⟩ w (by omega) (by decide) (by decide) (Bool.eq_false_iff.2 h)
    have hv : decR s.data.toList = (0, 2) := if_neg fun ⟨_, h1⟩ => h h1
    have HV1 : Hid (decV s.data.toList = 0) := Lib.hid (by unfold decV; rw [hv])
    have HV2 : Hid (decE s.data.toList = 2) := Lib.hid (by unfold decE; rw [hv])
    clear hv h hn h0
    go_enter Tryd.func39, Tryd.ntmps39
    go_wp2_with fail
    refine (c3 w).mono ?_
    rintro e w1 ⟨rfl, b1⟩
    go_wp2_with fail
    go_ret2
    exact ⟨ret_pair (by rw [HV1.out]; rfl) (by rw [HV2.out]; rfl), b1⟩
end Go.Proofs.YtehlgnjbmdaakaaDoor.NumC

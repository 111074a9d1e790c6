import Derived.Test.YthjlemglfgamnaaDoorNumO
namespace Go.Proofs.YthjlemglfgamnaaDoor.NumC
open Go.RowKit Go.My NumMath

set_option maxRecDepth 100000 in
set_option maxHeartbeats 1000000 in
theorem hex_any (s : ByteArray) (w : World) :
    Calls Tryd.prog 18 #[.string s] w fun e w' => e = .returned (.tuple #[.int .i64 ((hexV s.data.toList : Nat) : Int), .int .i64 ((hexE s.data.toList : Nat) : Int)]) ∧ Below w.heap.size w w' := by
  by_cases h8 : s.size = 8
  · have hb : ((s.size : Int) != 8) = false := by simp [h8]
    have hl8 : s.data.toList.length = 8 := by rw [← Lib.size_eq]; exact h8
    by_cases h : allIn hexs s.data.toList = true
    · have c3 := fun w => only_yes s ⟨#[48, 49, 50, 51, 52, 53, 54, 55, 56, 57, 97, 98, 99, 100, 101, 102, 65, 66, 67, 68, 69, 70]⟩ w (by omega) (by decide) (by decide) h
      have c4 := fun w => value_any 16 s w (by omega) (by omega) (by omega) (hexs_ok h)
      have hlt := hex_lt hl8 h
      have hv : hexR s.data.toList = (V (dig 16) 16 s.data.toList, 0) := if_pos ⟨hl8, h⟩
      have hv1 : hexV s.data.toList = rngV (V (dig 16) 16 s.data.toList) := by unfold hexV; rw [hv]; exact (if_pos (by omega)).symm
      have hv2 : hexE s.data.toList = rngE (V (dig 16) 16 s.data.toList) := by unfold hexE; rw [hv]; exact (if_pos (by omega)).symm
      rw [← hv1, ← hv2] at c4
      have H8 := Lib.hid h8
      clear hv hv1 hv2 hlt h hl8 h8
      go_enter Tryd.func18, Tryd.ntmps18
      go_wp2_with fail
      refine (c3 w).mono ?_
      rintro e w1 ⟨rfl, b1⟩
      go_wp2_with fail
      refine (c4 w1).mono ?_
      rintro e w2 ⟨rfl, rfl⟩
      go_wp2_with fail
      go_ret2
      exact ⟨rfl, b1⟩
    · have c3 := fun w => only_no s ⟨#[48, 49, 50, 51, 52, 53, 54, 55, 56, 57, 97, 98, 99, 100, 101, 102, 65, 66, 67, 68, 69, 70]⟩ w (by omega) (by decide) (by decide) (Bool.eq_false_iff.2 h)
      have hv : hexR s.data.toList = (0, 2) := if_neg fun ⟨_, h1⟩ => h h1
      have HV1 : Hid (hexV s.data.toList = 0) := Lib.hid (by unfold hexV; rw [hv])
      have HV2 : Hid (hexE s.data.toList = 2) := Lib.hid (by unfold hexE; rw [hv])
      clear hv h hl8 h8
      go_enter Tryd.func18, Tryd.ntmps18
      go_wp2_with fail
      refine (c3 w).mono ?_
      rintro e w1 ⟨rfl, b1⟩
      go_wp2_with fail
      go_ret2
      exact ⟨ret_pair (by rw [HV1.out]; rfl) (by rw [HV2.out]; rfl), b1⟩
  · have hb : ((s.size : Int) != 8) = true := by simp; omega
    have hv : hexR s.data.toList = (0, 2) := if_neg fun ⟨h1, _⟩ => h8 (by rw [Lib.size_eq]; exact h1)
    have HV1 : Hid (hexV s.data.toList = 0) := Lib.hid (by unfold hexV; rw [hv])
    have HV2 : Hid (hexE s.data.toList = 2) := Lib.hid (by unfold hexE; rw [hv])
    clear hv
    go_enter Tryd.func18, Tryd.ntmps18
    go_wp2_with fail
    go_ret2
    exact ⟨ret_pair (by rw [HV1.out]; rfl) (by rw [HV2.out]; rfl), Below.refl _ _⟩

set_option maxRecDepth 100000 in
set_option maxHeartbeats 1000000 in
theorem decimal_any (s : ByteArray) (w : World) (hs : s.size ≤ 1000000) :
    Calls Tryd.prog 22 #[.string s] w fun e w' => e = .returned (.tuple #[.int .i64 ((decV s.data.toList : Nat) : Int), .int .i64 ((decE s.data.toList : Nat) : Int)]) ∧ Below w.heap.size w w' := by
  by_cases h0 : s.size = 0
  · obtain rfl := empty_of s h0
    go_enter Tryd.func22, Tryd.ntmps22
    go_wp2_with fail
    go_ret2
    exact ⟨rfl, Below.refl _ _⟩
  have hne := nonempty_of s (by omega)
  have hn : s.data.toList ≠ [] := fun e => h0 (by rw [Lib.size_eq, e]; rfl)
  by_cases h : allIn decs s.data.toList = true
  · have c3 := fun w => only_yes s ⟨#[48, 49, 50, 51, 52, 53, 54, 55, 56, 57]⟩ w (by omega) (by decide) (by decide) h
    have c4 := fun w => value_any 10 s w (by omega) (by omega) (by omega) (decs_ok h)
    have hv : decR s.data.toList = (rngV (V (dig 10) 10 s.data.toList), rngE (V (dig 10) 10 s.data.toList)) := if_pos ⟨hn, h⟩
    have hv1 : decV s.data.toList = rngV (V (dig 10) 10 s.data.toList) := by unfold decV; rw [hv]
    have hv2 : decE s.data.toList = rngE (V (dig 10) 10 s.data.toList) := by unfold decE; rw [hv]
    rw [← hv1, ← hv2] at c4
    clear hv hv1 hv2 h hn h0
    go_enter Tryd.func22, Tryd.ntmps22
    go_wp2_with fail
    refine (c3 w).mono ?_
    rintro e w1 ⟨rfl, b1⟩
    go_wp2_with fail
    refine (c4 w1).mono ?_
    rintro e w2 ⟨rfl, rfl⟩
    go_wp2_with fail
    go_ret2
    exact ⟨rfl, b1⟩
  · have c3 := fun w => only_no s ⟨#[48, 49, 50, 51, 52, 53, 54, 55, 56, 57]⟩ w (by omega) (by decide) (by decide) (Bool.eq_false_iff.2 h)
    have hv : decR s.data.toList = (0, 2) := if_neg fun ⟨_, h1⟩ => h h1
    have HV1 : Hid (decV s.data.toList = 0) := Lib.hid (by unfold decV; rw [hv])
    have HV2 : Hid (decE s.data.toList = 2) := Lib.hid (by unfold decE; rw [hv])
    clear hv h hn h0
    go_enter Tryd.func22, Tryd.ntmps22
    go_wp2_with fail
    refine (c3 w).mono ?_
    rintro e w1 ⟨rfl, b1⟩
    go_wp2_with fail
    go_ret2
    exact ⟨ret_pair (by rw [HV1.out]; rfl) (by rw [HV2.out]; rfl), b1⟩
end Go.Proofs.YthjlemglfgamnaaDoor.NumC

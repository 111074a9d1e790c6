import Derived.Test.YtilgaacodacffaaF
namespace Go.Proofs.Ytilgaacodacffaa
open Go.RowKit Go.My CrcMath

theorem crc_nil (c : BitVec 32) : crc c [] = c := by unfold crc reg; rw [List.foldl_nil, xx]

set_option maxRecDepth 100000 in
set_option maxHeartbeats 4000000 in
theorem combines_law (a1 : Option Addr) (len1 cap1 : Nat) (l1 : List UInt8) (a2 : Option Addr) (len2 cap2 : Nat) (l2 : List UInt8) (n : Int) (hn1 : -9223372036854775808 ≤ n) (hn2 : n ≤ 9223372036854775807) (w : World) (hb1 : Bytes w a1 len1 cap1 l1) (hb2 : Bytes w a2 len2 cap2 l2) :
    Calls Try.prog 5 #[.slice a1 len1 cap1, .slice a2 len2 cap2, .int .i64 n] w fun e w' => e = .returned (.bool true) ∧ Below w.heap.size w w' := by
  have H1 := Lib.hid hb1
  have H2 := Lib.hid hb2
  have hm1 := hb1.cap_le
  have hl1 := hb1.le_cap
  have hm2 := hb2.cap_le
  have hl2 := hb2.le_cap
  clear hb1 hb2
  by_cases h : 300 < len1 ∨ 300 < len2
  · rcases h with h | h
    · go_enter Try.func5, Try.ntmps5
      go_wp2_with fail
      refine (told_bv w).mono ?_
      rintro e w' ⟨rfl, hw⟩
      go_wp2_with fail
      go_ret
      exact ⟨rfl, hw⟩
    · go_enter Try.func5, Try.ntmps5
      go_wp2_with (go_at_call 9; refine (told_bv w).mono ?_; rintro e w' ⟨rfl, hw⟩)
      all_goals go_ret
      all_goals exact ⟨rfl, hw⟩
  · have h1 : len1 ≤ 300 := by omega
    have h2 : len2 ≤ 300 := by omega
    have hz : crc 0#32 [] = 0#32 := crc_nil _
    have HCOMB : Hid (cstepN (8 * l2.length) (crc 0#32 l1) ^^^ crc 0#32 l2 = crc 0#32 (l1 ++ l2)) := Lib.hid (crc_combine l1 l2).symm
    have HZERO : Hid (cstepN (8 * 0) (crc 0#32 l1) ^^^ 0#32 = crc 0#32 l1) := Lib.hid (by rw [BitVec.xor_zero]; rfl)
    clear hz
    obtain rfl : len1 = l1.length := H1.out.len_eq.symm
    obtain rfl : len2 = l2.length := H2.out.len_eq.symm
    rcases (show 0 < n ∨ n = 0 ∨ n < 0 from by omega) with hn | hn | hn
    · have hq : (-n == 0) = false := by simp; omega
      have hneg : -n < 0 := by omega
      go_enter Try.func5, Try.ntmps5
      go_wp2_with fail
      refine (sum_bv _ _ _ l1 w H1.out).mono ?_
      rintro e w0 ⟨rfl, hw0⟩
      have H10 := Lib.hid (H1.out.below (Nat.le_refl _) hw0)
      have H20 := Lib.hid (H2.out.below (Nat.le_refl _) hw0)
      go_wp2_with fail
      refine (told_bv w0).mono ?_
      rintro e w1 ⟨rfl, hw1⟩
      have b1 := hw0.trans (hw1.mono hw0.size)
      have H11 := Lib.hid (H10.out.below (Nat.le_refl _) hw1)
      have H21 := Lib.hid (H20.out.below (Nat.le_refl _) hw1)
      go_wp2_with fail
      refine (sum_bv _ _ _ l2 w1 H21.out).mono ?_
      rintro e w2 ⟨rfl, hw2⟩
      have b2 := b1.trans (hw2.mono b1.size)
      have H12 := Lib.hid (H11.out.below (Nat.le_refl _) hw2)
      have H22 := Lib.hid (H21.out.below (Nat.le_refl _) hw2)
      go_wp2_with fail
      refine (combine_bv _ _ l2.length (by omega) w2).mono ?_
      rintro e w' ⟨rfl, rfl⟩
      rw [HCOMB.out]
      go_wp2_with (at_builtin; refine wpList_append_bytes rfl (.tmp 31) (.tmp 32) 23 rfl w2.heap.size 5 Try.underlying23 info5 _ [] rfl (Own.empty 5 w2 (Nat.le_refl _)) a1 l1.length cap1 l1 rfl (H12.out.below (Nat.le_refl _) ((Below.refl _ _).alloc (Nat.le_refl _) _)) (by simp; omega) (by simp) ?_)
      intro v1 w3 hown1 hg1
      have hw3 := cloned_below hown1 hg1
      have hsz3 := hw3.size
      have H23 := Lib.hid (H22.out.below (Nat.le_refl _) hw3)
      go_wp2_with (at_builtin; refine wpList_append_bytes rfl (.tmp 33) (.tmp 34) 23 rfl w2.heap.size 5 Try.underlying23 info5 v1 l1 rfl hown1 a2 l2.length cap2 l2 rfl H23.out (by omega) hsz3 ?_)
      intro v2 w4 hown2 hg2
      obtain ⟨a', c', rfl, hb', hw4⟩ := cloned2 hown1 hg1 hown2 hg2
      have b4 := b2.trans (hw4.mono b2.size)
      have H24 := Lib.hid (H2.out.below (Nat.le_refl _) b4)
      clear hown1 hg1 hown2 hg2 hw3 hsz3
      have Hb4 := Lib.hid hb'
      clear hb'
      go_wp2_with fail
      refine (sum_bv _ _ _ (l1 ++ l2) w4 Hb4.out).mono ?_
      rintro e w5 ⟨rfl, hw5⟩
      have b5 := b4.trans (hw5.mono b4.size)
      have H25 := Lib.hid (H24.out.below (Nat.le_refl _) hw5)
      go_wp2_with fail
      refine (combine_bv _ 0#32 0 (by omega) w5).mono ?_
      rintro e w' ⟨rfl, rfl⟩
      rw [HZERO.out]
      go_wp2_with fail
      refine (sum_bv _ _ _ l2 w5 H25.out).mono ?_
      rintro e w6 ⟨rfl, hw6⟩
      have b6 := b5.trans (hw6.mono b5.size)
      go_wp2_with fail
      refine (combine_neg _ _ _ (by omega) w6).mono ?_
      rintro e w' ⟨rfl, rfl⟩
      go_wp2_with fail
      go_ret
      exact ⟨rfl, b6⟩
    · subst hn
      go_enter Try.func5, Try.ntmps5
      go_wp2_with fail
      refine (sum_bv _ _ _ l1 w H1.out).mono ?_
      rintro e w0 ⟨rfl, hw0⟩
      have H10 := Lib.hid (H1.out.below (Nat.le_refl _) hw0)
      have H20 := Lib.hid (H2.out.below (Nat.le_refl _) hw0)
      go_wp2_with fail
      refine (told_bv w0).mono ?_
      rintro e w1 ⟨rfl, hw1⟩
      have b1 := hw0.trans (hw1.mono hw0.size)
      have H11 := Lib.hid (H10.out.below (Nat.le_refl _) hw1)
      have H21 := Lib.hid (H20.out.below (Nat.le_refl _) hw1)
      go_wp2_with fail
      refine (sum_bv _ _ _ l2 w1 H21.out).mono ?_
      rintro e w2 ⟨rfl, hw2⟩
      have b2 := b1.trans (hw2.mono b1.size)
      have H12 := Lib.hid (H11.out.below (Nat.le_refl _) hw2)
      have H22 := Lib.hid (H21.out.below (Nat.le_refl _) hw2)
      go_wp2_with fail
      refine (combine_bv _ _ l2.length (by omega) w2).mono ?_
      rintro e w' ⟨rfl, rfl⟩
      rw [HCOMB.out]
      go_wp2_with (at_builtin; refine wpList_append_bytes rfl (.tmp 31) (.tmp 32) 23 rfl w2.heap.size 5 Try.underlying23 info5 _ [] rfl (Own.empty 5 w2 (Nat.le_refl _)) a1 l1.length cap1 l1 rfl (H12.out.below (Nat.le_refl _) ((Below.refl _ _).alloc (Nat.le_refl _) _)) (by simp; omega) (by simp) ?_)
      intro v1 w3 hown1 hg1
      have hw3 := cloned_below hown1 hg1
      have hsz3 := hw3.size
      have H23 := Lib.hid (H22.out.below (Nat.le_refl _) hw3)
      go_wp2_with (at_builtin; refine wpList_append_bytes rfl (.tmp 33) (.tmp 34) 23 rfl w2.heap.size 5 Try.underlying23 info5 v1 l1 rfl hown1 a2 l2.length cap2 l2 rfl H23.out (by omega) hsz3 ?_)
      intro v2 w4 hown2 hg2
      obtain ⟨a', c', rfl, hb', hw4⟩ := cloned2 hown1 hg1 hown2 hg2
      have b4 := b2.trans (hw4.mono b2.size)
      have H24 := Lib.hid (H2.out.below (Nat.le_refl _) b4)
      clear hown1 hg1 hown2 hg2 hw3 hsz3
      have Hb4 := Lib.hid hb'
      clear hb'
      go_wp2_with fail
      refine (sum_bv _ _ _ (l1 ++ l2) w4 Hb4.out).mono ?_
      rintro e w5 ⟨rfl, hw5⟩
      have b5 := b4.trans (hw5.mono b4.size)
      have H25 := Lib.hid (H24.out.below (Nat.le_refl _) hw5)
      go_wp2_with fail
      refine (combine_bv _ 0#32 0 (by omega) w5).mono ?_
      rintro e w' ⟨rfl, rfl⟩
      rw [HZERO.out]
      go_wp2_with fail
      go_ret
      exact ⟨rfl, b5⟩
    · have hq : (n == 0) = false := by simp; omega
      go_enter Try.func5, Try.ntmps5
      go_wp2_with fail
      refine (sum_bv _ _ _ l1 w H1.out).mono ?_
      rintro e w0 ⟨rfl, hw0⟩
      have H10 := Lib.hid (H1.out.below (Nat.le_refl _) hw0)
      have H20 := Lib.hid (H2.out.below (Nat.le_refl _) hw0)
      go_wp2_with fail
      refine (told_bv w0).mono ?_
      rintro e w1 ⟨rfl, hw1⟩
      have b1 := hw0.trans (hw1.mono hw0.size)
      have H11 := Lib.hid (H10.out.below (Nat.le_refl _) hw1)
      have H21 := Lib.hid (H20.out.below (Nat.le_refl _) hw1)
      go_wp2_with fail
      refine (sum_bv _ _ _ l2 w1 H21.out).mono ?_
      rintro e w2 ⟨rfl, hw2⟩
      have b2 := b1.trans (hw2.mono b1.size)
      have H12 := Lib.hid (H11.out.below (Nat.le_refl _) hw2)
      have H22 := Lib.hid (H21.out.below (Nat.le_refl _) hw2)
      go_wp2_with fail
      refine (combine_bv _ _ l2.length (by omega) w2).mono ?_
      rintro e w' ⟨rfl, rfl⟩
      rw [HCOMB.out]
      go_wp2_with (at_builtin; refine wpList_append_bytes rfl (.tmp 31) (.tmp 32) 23 rfl w2.heap.size 5 Try.underlying23 info5 _ [] rfl (Own.empty 5 w2 (Nat.le_refl _)) a1 l1.length cap1 l1 rfl (H12.out.below (Nat.le_refl _) ((Below.refl _ _).alloc (Nat.le_refl _) _)) (by simp; omega) (by simp) ?_)
      intro v1 w3 hown1 hg1
      have hw3 := cloned_below hown1 hg1
      have hsz3 := hw3.size
      have H23 := Lib.hid (H22.out.below (Nat.le_refl _) hw3)
      go_wp2_with (at_builtin; refine wpList_append_bytes rfl (.tmp 33) (.tmp 34) 23 rfl w2.heap.size 5 Try.underlying23 info5 v1 l1 rfl hown1 a2 l2.length cap2 l2 rfl H23.out (by omega) hsz3 ?_)
      intro v2 w4 hown2 hg2
      obtain ⟨a', c', rfl, hb', hw4⟩ := cloned2 hown1 hg1 hown2 hg2
      have b4 := b2.trans (hw4.mono b2.size)
      have H24 := Lib.hid (H2.out.below (Nat.le_refl _) b4)
      clear hown1 hg1 hown2 hg2 hw3 hsz3
      have Hb4 := Lib.hid hb'
      clear hb'
      go_wp2_with fail
      refine (sum_bv _ _ _ (l1 ++ l2) w4 Hb4.out).mono ?_
      rintro e w5 ⟨rfl, hw5⟩
      have b5 := b4.trans (hw5.mono b4.size)
      have H25 := Lib.hid (H24.out.below (Nat.le_refl _) hw5)
      go_wp2_with fail
      refine (combine_bv _ 0#32 0 (by omega) w5).mono ?_
      rintro e w' ⟨rfl, rfl⟩
      rw [HZERO.out]
      go_wp2_with fail
      refine (sum_bv _ _ _ l2 w5 H25.out).mono ?_
      rintro e w6 ⟨rfl, hw6⟩
      have b6 := b5.trans (hw6.mono b5.size)
      go_wp2_with fail
      refine (combine_neg _ _ _ (by omega) w6).mono ?_
      rintro e w' ⟨rfl, rfl⟩
      go_wp2_with fail
      go_ret
      exact ⟨rfl, b6⟩
end Go.Proofs.Ytilgaacodacffaa

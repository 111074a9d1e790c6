import Derived.Test.YtilgaacodacffaaE
namespace Go.Proofs.Ytilgaacodacffaa
open Go.RowKit Go.My CrcMath

theorem info5 : (Try.prog.info? 5).map (fun i => (i.zero, i.size, i.bytes)) = some (some (.int .u8 0), 1, 1) := by kernel_rfl

theorem cloned {w w1 : World} {v' : Value} {l : List UInt8} (hown : Own 5 w.heap.size w1 v' ([] ++ l)) (hg : (w.alloc (.cells #[] 5)).grownBy w1 (Value.ownBlock (.slice (some ⟨w.heap.size, 0, none⟩) 0 0))) :
    ∃ a' c', v' = .slice a' l.length c' ∧ Bytes w1 a' l.length c' l ∧ Below w.heap.size w w1 := by
  rw [List.nil_append] at hown
  obtain ⟨a', c', rfl, hb⟩ := hown.bytes
  exact ⟨a', c', rfl, hb, grown_below (Own.empty 5 w (Nat.le_refl _)) ((Below.refl _ _).alloc (Nat.le_refl _) _) hg (by simp)⟩

set_option maxRecDepth 100000 in
set_option maxHeartbeats 1000000 in
theorem sums_law (c : BitVec 32) (a : Option Addr) (len cap : Nat) (l : List UInt8) (w : World) (hb : Bytes w a len cap l) :
    Calls Try.prog 3 #[.int .u32 (c.toNat : Int), .slice a len cap] w fun e w' => e = .returned (.bool true) ∧ Below w.heap.size w w' := by
  have H := Lib.hid hb
  have hm := hb.cap_le
  have hl := hb.le_cap
  clear hb
  by_cases h : 500 < len
  · go_enter Try.func3, Try.ntmps3
    go_wp2_with fail
    refine (told_bv w).mono ?_
    rintro e w' ⟨rfl, hw⟩
    go_wp2_with fail
    go_ret
    exact ⟨rfl, hw⟩
  · go_enter Try.func3, Try.ntmps3
    go_wp2_with (at_builtin; refine wpList_append_bytes rfl (.tmp 10) (.tmp 11) 23 rfl w.heap.size 5 Try.underlying23 info5 _ [] rfl (Own.empty 5 w (Nat.le_refl _)) a len cap l rfl (H.out.below (Nat.le_refl _) ((Below.refl _ _).alloc (Nat.le_refl _) _)) (by simp; omega) (by simp) ?_)
    intro v' w1 hown hg
    obtain ⟨a', c', rfl, hb', hw1⟩ := cloned hown hg
    clear hown hg
    obtain rfl : len = l.length := H.out.len_eq.symm
    have Hb' := Lib.hid hb'
    have H1 := Lib.hid (H.out.below (Nat.le_refl _) hw1)
    have hc1 := hb'.le_cap
    have hc2 := hb'.cap_le
    clear hb'
    go_wp2_with fail
    refine (told_bv w1).mono ?_
    rintro e w2 ⟨rfl, hw2⟩
    go_wp2_with fail
    have b2 := hw1.trans (hw2.mono hw1.size)
    have Hb2 := Lib.hid (Hb'.out.below (Nat.le_refl _) hw2)
    have H2 := Lib.hid (H1.out.below (Nat.le_refl _) hw2)
    refine (update_bv c _ _ _ l w2 Hb2.out).mono ?_
    rintro e w3 ⟨rfl, hw3⟩
    have b3 := b2.trans (hw3.mono b2.size)
    have Hb3 := Lib.hid (Hb2.out.below (Nat.le_refl _) hw3)
    have H3 := Lib.hid (H2.out.below (Nat.le_refl _) hw3)
    go_wp2_with fail
    refine (ref_bv c _ _ _ l w3 H3.out).mono ?_
    rintro e w' ⟨rfl, rfl⟩
    go_wp2_with fail
    refine (sum_bv _ _ _ l w3 Hb3.out).mono ?_
    rintro e w4 ⟨rfl, hw4⟩
    have b4 := b3.trans (hw4.mono b3.size)
    have Hb4 := Lib.hid (Hb3.out.below (Nat.le_refl _) hw4)
    have H4 := Lib.hid (H3.out.below (Nat.le_refl _) hw4)
    go_wp2_with fail
    refine (ref_bv 0#32 _ _ _ l w4 H4.out).mono ?_
    rintro e w' ⟨rfl, rfl⟩
    go_wp2_with fail
    refine (slices_bv _ _ _ l w4 Hb4.out).mono ?_
    rintro e w5 ⟨rfl, hw5⟩
    have b5 := b4.trans (hw5.mono b4.size)
    have Hb5 := Lib.hid (Hb4.out.below (Nat.le_refl _) hw5)
    have H5 := Lib.hid (H4.out.below (Nat.le_refl _) hw5)
    go_wp2_with fail
    refine (ref_bv 0#32 _ _ _ l w5 H5.out).mono ?_
    rintro e w' ⟨rfl, rfl⟩
    have k1 := run_string_bytes (P := Try.prog) w5 23 9 5 Try.underlying23 Try.underlying5 Try.underlying9 Hb5.out
    have k2 := run_string_bytes (P := Try.prog) w5 23 9 5 Try.underlying23 Try.underlying5 Try.underlying9 H5.out
    go_wp2_with fail
    go_ret
    exact ⟨rfl, b5⟩

theorem cloned_below {w w1 : World} {v' : Value} {l : List UInt8} (hown : Own 5 w.heap.size w1 v' ([] ++ l)) (hg : (w.alloc (.cells #[] 5)).grownBy w1 (Value.ownBlock (.slice (some ⟨w.heap.size, 0, none⟩) 0 0))) :
    Below w.heap.size w w1 := let ⟨_, _, _, _, h⟩ := cloned hown hg; h

/-- append(append([]byte{}, a...), b...): behind the second append. -/
theorem cloned2 {w w2 w3 : World} {v1 v2 : Value} {l1 l2 : List UInt8} (hown1 : Own 5 w.heap.size w2 v1 ([] ++ l1)) (hg1 : (w.alloc (.cells #[] 5)).grownBy w2 (Value.ownBlock (.slice (some ⟨w.heap.size, 0, none⟩) 0 0)))
    (hown : Own 5 w.heap.size w3 v2 (l1 ++ l2)) (hg : w2.grownBy w3 v1.ownBlock) :
    ∃ a' c', v2 = .slice a' (l1.length + l2.length) c' ∧ Bytes w3 a' (l1.length + l2.length) c' (l1 ++ l2) ∧ Below w.heap.size w w3 := by
  have hw := cloned_below hown1 hg1
  obtain ⟨a', c', rfl, hb⟩ := hown.bytes
  rw [List.length_append] at hb ⊢
  exact ⟨a', c', rfl, hb, grown_below hown1 hw hg hw.size⟩

set_option maxRecDepth 100000 in
set_option maxHeartbeats 1000000 in
theorem goes_law (c : BitVec 32) (a1 : Option Addr) (len1 cap1 : Nat) (l1 : List UInt8) (a2 : Option Addr) (len2 cap2 : Nat) (l2 : List UInt8) (w : World) (hb1 : Bytes w a1 len1 cap1 l1) (hb2 : Bytes w a2 len2 cap2 l2) :
    Calls Try.prog 4 #[.int .u32 (c.toNat : Int), .slice a1 len1 cap1, .slice a2 len2 cap2] w fun e w' => e = .returned (.bool true) ∧ Below w.heap.size w w' := by
  have H1 := Lib.hid hb1
  have H2 := Lib.hid hb2
  have hm1 := hb1.cap_le
  have hl1 := hb1.le_cap
  have hm2 := hb2.cap_le
  have hl2 := hb2.le_cap
  clear hb1 hb2
  by_cases h : 300 < len1 ∨ 300 < len2
  · rcases h with h | h
    · go_enter Try.func4, Try.ntmps4
      go_wp2_with fail
      refine (told_bv w).mono ?_
      rintro e w' ⟨rfl, hw⟩
      go_wp2_with fail
      go_ret
      exact ⟨rfl, hw⟩
    · go_enter Try.func4, Try.ntmps4
      go_wp2_with (go_at_call 9; refine (told_bv w).mono ?_; rintro e w' ⟨rfl, hw⟩)
      all_goals go_ret
      all_goals exact ⟨rfl, hw⟩
  · have h1 : len1 ≤ 300 := by omega
    have h2 : len2 ≤ 300 := by omega
    go_enter Try.func4, Try.ntmps4
    go_wp2_with fail
    refine (told_bv w).mono ?_
    rintro e w1 ⟨rfl, hw1⟩
    have H11 := Lib.hid (H1.out.below (Nat.le_refl _) hw1)
    have H21 := Lib.hid (H2.out.below (Nat.le_refl _) hw1)
    go_wp2_with (at_builtin; refine wpList_append_bytes rfl (.tmp 19) (.tmp 20) 23 rfl w1.heap.size 5 Try.underlying23 info5 _ [] rfl (Own.empty 5 w1 (Nat.le_refl _)) a1 len1 cap1 l1 rfl (H11.out.below (Nat.le_refl _) ((Below.refl _ _).alloc (Nat.le_refl _) _)) (by simp; omega) (by simp) ?_)
    intro v1 w2 hown1 hg1
    obtain rfl : len1 = l1.length := H1.out.len_eq.symm
    obtain rfl : len2 = l2.length := H2.out.len_eq.symm
    have hw2 := cloned_below hown1 hg1
    have hsz2 := hw2.size
    have H22 := Lib.hid (H21.out.below (Nat.le_refl _) hw2)
    go_wp2_with (at_builtin; refine wpList_append_bytes rfl (.tmp 21) (.tmp 22) 23 rfl w1.heap.size 5 Try.underlying23 info5 v1 l1 rfl hown1 a2 l2.length cap2 l2 rfl H22.out (by omega) hsz2 ?_)
    intro v2 w3 hown2 hg2
    obtain ⟨a', c', rfl, hb', hw3⟩ := cloned2 hown1 hg1 hown2 hg2
    have b3 := hw1.trans (hw3.mono hw1.size)
    have H13 := Lib.hid (H1.out.below (Nat.le_refl _) b3)
    have H23 := Lib.hid (H2.out.below (Nat.le_refl _) b3)
    clear hown1 hg1 hown2 hg2 hw2 hsz2
    have Hb3 := Lib.hid hb'
    clear hb'
    go_wp2_with fail
    refine (update_bv c _ _ _ (l1 ++ l2) w3 Hb3.out).mono ?_
    rintro e w4 ⟨rfl, hw4⟩
    have b4 := b3.trans (hw4.mono b3.size)
    have H14 := Lib.hid (H13.out.below (Nat.le_refl _) hw4)
    have H24 := Lib.hid (H23.out.below (Nat.le_refl _) hw4)
    go_wp2_with fail
    refine (update_bv c _ _ _ l1 w4 H14.out).mono ?_
    rintro e w5 ⟨rfl, hw5⟩
    have b5 := b4.trans (hw5.mono b4.size)
    have H25 := Lib.hid (H24.out.below (Nat.le_refl _) hw5)
    go_wp2_with fail
    refine (update_bv (crc c l1) _ _ _ l2 w5 H25.out).mono ?_
    rintro e w6 ⟨rfl, hw6⟩
    have b6 := b5.trans (hw6.mono b5.size)
    rw [← crc_append]
    go_wp2_with fail
    go_ret
    exact ⟨rfl, b6⟩
end Go.Proofs.Ytilgaacodacffaa

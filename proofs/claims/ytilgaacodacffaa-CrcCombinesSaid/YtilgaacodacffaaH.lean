import Derived.Test.YtilgaacodacffaaG
import Derived.Deep.Cut
namespace Go.Proofs.Ytilgaacodacffaa
open Go.RowKit Go.My CrcMath

set_option maxRecDepth 100000 in
set_option maxHeartbeats 4000000 in
theorem far_law (a1 : Option Addr) (len1 cap1 : Nat) (l1 : List UInt8) (n : Int) (w : World) (hb1 : Bytes w a1 len1 cap1 l1) :
    Calls Try.prog 6 #[.slice a1 len1 cap1, .int .i64 n] w fun e w' => e = .returned (.bool true) ∧ Below w.heap.size w w' := by
  have H1 := Lib.hid hb1
  have hm1 := hb1.cap_le
  have hl1 := hb1.le_cap
  clear hb1
  by_cases h : 50 < len1
  · go_enter Try.func6, Try.ntmps6
    go_wp2_with fail
    refine (told_bv w).mono ?_
    rintro e w' ⟨rfl, hw⟩
    go_wp2_with fail
    go_ret
    exact ⟨rfl, hw⟩
  · obtain ⟨k, hk, hkk⟩ : ∃ k : Nat, k ≤ 4000 ∧ wrap64 ((IntKind.u64.wrap n).tmod 4001) = (k : Int) := by
      have h0 : 0 ≤ IntKind.u64.wrap n := by simp [IntKind.wrap, IntKind.bits, IntKind.signed]; omega
      have e : (IntKind.u64.wrap n).tmod 4001 = IntKind.u64.wrap n % 4001 := Int.tmod_eq_emod_of_nonneg h0
      refine ⟨(IntKind.u64.wrap n % 4001).toNat, by omega, ?_⟩
      rw [e, IntWalk.wrap64_in _ ⟨by omega, by omega⟩]
      omega
    obtain rfl : len1 = l1.length := H1.out.len_eq.symm
    have HC : Hid (cstepN (8 * k) (crc 0#32 l1) ^^^ crc 0#32 (List.replicate k 0) = crc 0#32 (l1 ++ List.replicate k 0)) := Lib.hid (by rw [crc_combine, List.length_replicate])
    go_enter Try.func6, Try.ntmps6
    go_upto_region 4 with (fail)
    rw [hkk]
    clear hkk
    go_wp2_with (at_make; refine wpList_make_bytes _ rfl (.tmp 15) (.tmp 15) 23 rfl w.heap.size 5 Try.underlying23 info5 .i64 .i64 k rfl rfl (by omega) (Nat.le_refl _) ?_)
    intro w1 hown hg
    obtain ⟨az, cz, hez, hbz⟩ := hown.bytes
    rw [List.length_replicate] at hez hbz
    simp only [Value.slice.injEq, true_and] at hez
    obtain ⟨rfl, rfl⟩ := hez
    have b1 : Below w.heap.size w w1 := (Below.refl _ _).grown hg (Nat.le_refl _) (fun k h => by cases h)
    have H11 := Lib.hid (H1.out.below (Nat.le_refl _) b1)
    have Hz1 := Lib.hid hbz
    clear hown hg hbz
    go_wp2_with fail
    refine (told_bv w1).mono ?_
    rintro e w2 ⟨rfl, hw2⟩
    have b2 := b1.trans (hw2.mono b1.size)
    have H12 := Lib.hid (H11.out.below (Nat.le_refl _) hw2)
    have Hz2 := Lib.hid (Hz1.out.below (Nat.le_refl _) hw2)
    go_wp2_with fail
    refine (sum_bv _ _ _ l1 w2 H12.out).mono ?_
    rintro e w3 ⟨rfl, hw3⟩
    have b3 := b2.trans (hw3.mono b2.size)
    have H13 := Lib.hid (H12.out.below (Nat.le_refl _) hw3)
    have Hz3 := Lib.hid (Hz2.out.below (Nat.le_refl _) hw3)
    go_wp2_with fail
    refine (sum_bv _ _ _ _ w3 Hz3.out).mono ?_
    rintro e w4 ⟨rfl, hw4⟩
    have b4 := b3.trans (hw4.mono b3.size)
    have H14 := Lib.hid (H13.out.below (Nat.le_refl _) hw4)
    have Hz4 := Lib.hid (Hz3.out.below (Nat.le_refl _) hw4)
    go_wp2_with fail
    refine (combine_bv _ _ k (by omega) w4).mono ?_
    rintro e w' ⟨rfl, rfl⟩
    rw [HC.out]
    go_wp2_with (at_builtin; refine wpList_append_bytes rfl (.tmp 25) (.tmp 26) 23 rfl w4.heap.size 5 Try.underlying23 info5 _ [] rfl (Own.empty 5 w4 (Nat.le_refl _)) a1 l1.length cap1 l1 rfl (H14.out.below (Nat.le_refl _) ((Below.refl _ _).alloc (Nat.le_refl _) _)) (by simp; omega) (by simp) ?_)
    intro v1 w5 hown1 hg1
    have hw5 := cloned_below hown1 hg1
    have hsz5 := hw5.size
    have Hz5 := Lib.hid (Hz4.out.below (Nat.le_refl _) hw5)
    go_wp2_with (at_builtin; refine wpList_append_bytes rfl (.tmp 27) (.tmp 28) 23 rfl w4.heap.size 5 Try.underlying23 info5 v1 l1 rfl hown1 _ k _ (List.replicate k 0) rfl Hz5.out (by omega) hsz5 ?_)
    intro v2 w6 hown2 hg2
    obtain ⟨a', c', hv2, hb', hw6⟩ := cloned2 hown1 hg1 hown2 hg2
    rw [List.length_replicate] at hv2 hb'
    subst hv2
    have b6 := b4.trans (hw6.mono b4.size)
    clear hown1 hg1 hown2 hg2 hw5 hsz5
    have Hb6 := Lib.hid hb'
    clear hb'
    go_wp2_with fail
    refine (sum_bv _ _ _ _ w6 Hb6.out).mono ?_
    rintro e w7 ⟨rfl, hw7⟩
    have b7 := b6.trans (hw7.mono b6.size)
    go_wp2_with fail
    go_ret
    exact ⟨rfl, b7⟩
end Go.Proofs.Ytilgaacodacffaa
